/-
  UtfReads: what bytes stand for, and where, from the front and from behind, left early too, is what the document says: for every text of at most 1048576 letters and every number.
-/
import Derived.Test.YtjkchpjopgpeeaaFresh
import Derived.Test.YtjkchpjopgpeeaaRefRunes
import Derived.Test.YtjkchpjopgpeeaaGather2
import Derived.Test.YtjkchpjopgpeeaaQuietIn
import Derived.Test.YtjkchpjopgpeeaaRangeB
import Derived.Test.YtjkchpjopgpeeaaLives
import Derived.Test.YtjkchpjopgpeeaaBulk
import Derived.Deep.RegionLaw
import Derived.Deep.RegionWith
import Derived.Deep.RegionHeld
import Derived.Deep.QuietTactic
import Derived.BigQuiet
import Derived.ProofKit
import Derived.OpenShut
import Derived.ShutString
import Derived.ChangeOld
import Derived.JoinedCond
namespace Go.Proofs.Ytjkchpjopgpeeaa
open Go.RowKit Go.PlainAid Go.Lib

theorem step_append_own {P : Program} {ops : Array Oper} {o : Oper} {a : Act} {w : World} {K : Act → World → Prop} {Q : Exit → Act → World → Prop} {E : Prop}
    (hg : o.guard = none) (s x : Operand) (t : TypeId) (hop : o.op = Op.call { callee := Callee.builtin Builtin.append, args := #[s, x], argTypes := #[t, t] })
    (base : Nat) (e : TypeId) (i : TypeInfo) (z : Value) (size bytes : Nat) (h1 : P.underlying t = some (.slice e)) (h2 : P.info? e = some i) (h3 : i.zero = some z) (h4 : i.size = size) (h5 : i.bytes = bytes) (h6 : z.cells.size = size) (h7 : 0 < size)
    (v : Value) (n : Nat) (xs : List Value) (hs : a.eval s = v) (hown : w.ownsRow base e size v n xs)
    (ad : Addr) (m c : Nat) (news : List Value) (hx : a.eval x = .slice (some ad) m c) (hn : news.length = m * size) (hc : ∀ j u, news[j]? = some u → w.cell? (ad.add j) = some u) (h1c : ∀ u ∈ news, u.oneCell' = true)
    (b1 : n + m ≤ maxLen) (b2 : (n + m) * bytes ≤ 140737488355328) (b3 : base ≤ w.heap.size)
    (hK : ∀ v' w', w'.ownsRow base e size v' (n + m) (xs ++ news) → w.grownBy w' v.ownBlock → (v'.ownBlock = v.ownBlock ∨ v'.ownBlock = some w.heap.size) → K (a.put o.dst v') w') :
    if Region.wanted o (yielded ops a.tmps) = true then Oper.wp P o a w K Q else E := by
  have hw : Region.wanted o (yielded ops a.tmps) = true := by simp [Region.wanted, hg]
  rw [if_pos hw]
  obtain ⟨v', w', hrun, r1, r2, _, r3⟩ := run_append_own_at (P := P) w base t o.type e i z size bytes h1 h2 h3 h4 h5 h6 h7 v n xs hown ad m c news hn hc h1c b1 b2 b3
  unfold Oper.wp
  simp [execOp, hop, resolve, invoke, builtin, hs, hx, hrun, Result.andThen]
  exact hK v' w' r1 r2 r3

namespace utfReads
open Go.ChangeShapes Go.WideShapes Go.ChangeAt Go.Shelf
open Go.ChangeMaps (open_string shut_string)
attribute [local go_sem] Oper.semAt_some
set_option linter.unusedVariables false

/-- a piece of code that ends in no other way than by going on -/
def onlyN (Q : Exit → Act → World → Prop) : Exit → Act → World → Prop
  | .normal, a, w => Q .normal a w
  | _, _, _ => False
theorem onlyN_mk {Q : Exit → Act → World → Prop} {a : Act} {w : World} (h : Q .normal a w) : onlyN Q .normal a w := h
theorem wp_only {P : Program} {c : Code} {Q : Exit → Act → World → Prop} {a : Act} {w : World} (h : c.wp P (onlyN Q) a w) : c.wp P Q a w :=
  Code.wp_mono (fun e a w h => by cases e <;> first | exact h | exact h.elim) h
theorem wp_cutF {α : Type} {P : Program} {c : Code} {Q : Exit → Act → World → Prop} {a : Act} {w : World} (F : α → Act) (R : α → World → Prop) (h : c.wp P (onlyN (fun _ a w => ∃ v, R v w ∧ a = F v)) a w) (hk : ∀ v w, R v w → Q .normal (F v) w) : c.wp P Q a w :=
  Code.wp_mono (fun e a w h => by
    cases e <;> first
      | (obtain ⟨v, h1, rfl⟩ := h; exact hk v w h1)
      | exact h.elim) h
def CutP (F : Option Addr → Nat → Option Addr → Nat → Act) (R : World → Prop) (a : Act) (w : World) : Prop := ∃ x y z u, R w ∧ a = F x y z u
theorem wp_cut4 {P : Program} {c : Code} {Q : Exit → Act → World → Prop} {a : Act} {w : World} (F : Option Addr → Nat → Option Addr → Nat → Act) (R : World → Prop) (h : c.wp P (onlyN (fun _ a w => CutP F R a w)) a w) (hk : ∀ x y z u w, R w → Q .normal (F x y z u) w) : c.wp P Q a w :=
  Code.wp_mono (fun e a w h => by
    cases e <;> first
      | (obtain ⟨x, y, z, u, h1, rfl⟩ := h; exact hk x y z u w h1)
      | exact h.elim) h
/-- what an append in a region leaves, beside another row -/
theorem grown_rows {W wr w4 : World} {T : Obj} {v v' z : Value} {i m : Nat} {xs ys : List Value} (h6 : wr.ownsRow W.heap.size 29 2 v i xs) (h7 : wr.ownsRow W.heap.size 29 2 z m ys) (hap : v.ownBlock = none ∨ v.ownBlock ≠ z.ownBlock) (hB : Below W.heap.size W wr)
    (hg : (wr.alloc T).drew.grownBy w4 v.ownBlock) (hb : v'.ownBlock = v.ownBlock ∨ v'.ownBlock = some (wr.alloc T).drew.heap.size) :
    w4.ownsRow W.heap.size 29 2 z m ys ∧ (v'.ownBlock = none ∨ v'.ownBlock ≠ z.ownBlock) ∧ Below W.heap.size W w4 := by
  have hs := hB.size
  refine ⟨(show (wr.alloc T).drew.ownsRow _ _ _ _ _ _ from h7.alloc T).kept hg (apart_symm hap), ?_, ?_⟩
  · rcases hb with h | h
    · rw [h]; exact hap
    · right; rw [h]; intro e
      have := (h7.lt _ e.symm).2
      have e2 : (wr.alloc T).drew.heap.size = wr.heap.size + 1 := by simp [World.drew]
      omega
  · have h1 : Below W.heap.size W (wr.alloc T).drew := (hB.alloc hs T).trans ⟨rfl, rfl, rfl, Nat.le_refl _, fun _ _ => rfl⟩
    exact h1.grown hg h1.size (fun k e => (h6.lt k e).1)
theorem pr_cap {w1 : World} {base : Nat} {n : Nat} {p p' : Option Addr} {m c c' : Nat} {xs : List Value} (h : w1.ownsRow base 29 2 (.slice p m c) n xs) (he : Value.slice p m c = .slice p' n c') : m ≤ c := by
  rcases h.2 with ⟨e, h0⟩ | ⟨g, cap, cur, e, h1, h2⟩
  · simp at e; omega
  · simp at e
    have := h2.2.1
    omega
theorem pairs_few {w : World} {s : ByteArray} {a : Option Addr} {l : List Nat} (h : PairsAt w s a l) (f : Int) : PairsAt w s a (fewOf f l) := by
  intro i x hx
  unfold fewOf at hx
  split at hx
  · exact h i x hx
  · rw [List.getElem?_take] at hx
    split at hx
    · exact h i x hx
    · cases hx
/-- what stands behind the loop: the lists that are wanted, in memory -/
structure RSt (w X : World) (s : ByteArray) (wb L c : Nat) (l a6 a7 : Option Addr) : Prop where
  want : Boxed X wb 22 (.slice l L c)
  res : Boxed X w.heap.size 4 (.bool false)
  sp : SpotsAt X s l (places s)
  on : PairsAt X s a6 (places s)
  back : PairsAt X s a7 (places s).reverse
  bel : Below w.heap.size w X
theorem RSt.below {w X X' : World} {s : ByteArray} {wb L c : Nat} {l a6 a7 : Option Addr} (h : RSt w X s wb L c l a6 a7) (hb : Below X.heap.size X X') : RSt w X' s wb L c l a6 a7 :=
  ⟨(hb.block _ h.want.lt).trans h.want, (hb.block _ h.res.lt).trans h.res, h.sp.below hb, h.on.below hb, h.back.below hb, h.bel.trans (hb.mono h.bel.size)⟩
theorem RSt.drew {w X : World} {s : ByteArray} {wb L c : Nat} {l a6 a7 : Option Addr} (h : RSt w X s wb L c l a6 a7) : RSt w X.drew s wb L c l a6 a7 := h.below ⟨rfl, rfl, rfl, Nat.le_refl _, fun _ _ => rfl⟩
theorem below2 {a b c : World} (h : Below a.heap.size a b) (k : Below b.heap.size b c) : Below a.heap.size a c := h.trans (k.mono h.size)
theorem boxed_below {W W' : World} {B : Nat} {t : TypeId} {v : Value} (h : Boxed W B t v) (hb : Below W.heap.size W W') : Boxed W' B t v := (hb.block B h.lt).trans h

theorem last_whole (s : ByteArray) (h : 0 < (chars s 0).length) : (places s)[(chars s 0).length - 1]? = some (lastPos s) := by
  have h1 := last_start s ((chars s 0).length - 1) (by omega)
  rw [show (chars s 0).length - 1 + 1 = (chars s 0).length by omega, start_len] at h1
  have e : s.extract 0 s.size = s := by simp
  rw [e] at h1
  rw [place_start s _ (by omega), h1.1]
theorem first_whole (s : ByteArray) (h : 0 < (chars s 0).length) : (places s)[0]? = some 0 := by rw [place_start s 0 h, start_zero]
/-- lists of runes that the last line makes, each in memory of its own -/
structure Three (V2 X : World) (n : Nat) (zs : List Int) (vs : List Value) : Prop where
  rows : ∀ v ∈ vs, X.ownsRow V2.heap.size 21 1 v n (i32s zs)
  ap : vs.Pairwise (fun a b => a.ownBlock = none ∨ a.ownBlock ≠ b.ownBlock)
theorem Three.below {V2 X X' : World} {n : Nat} {zs : List Int} {vs : List Value} (h : Three V2 X n zs vs) (hb : Below X.heap.size X X') : Three V2 X' n zs vs := ⟨fun v hv => row_below2 (h.rows v hv) hb, h.ap⟩
theorem Three.add {V2 X X' : World} {n : Nat} {zs : List Int} {vs : List Value} {v : Value} (h : Three V2 X n zs vs) (hb : Below X.heap.size X X') (hle : V2.heap.size ≤ X.heap.size) (hr : X'.ownsRow X.heap.size 21 1 v n (i32s zs)) : Three V2 X' n zs (v :: vs) := by
  refine ⟨fun u hu => ?_, List.pairwise_cons.2 ⟨fun u hu => ?_, h.ap⟩⟩
  · rcases List.mem_cons.1 hu with rfl | hu
    · refine ⟨hr.1, ?_⟩
      rcases hr.2 with h' | ⟨g, cap, cur, e1, e2, e3⟩
      · exact .inl h'
      · exact .inr ⟨g, cap, cur, e1, Nat.le_trans hle e2, e3⟩
    · exact row_below2 (h.rows u hu) hb
  · cases hv : v.ownBlock with
    | none => exact .inl rfl
    | some g =>
      right
      intro e
      have h1 := (hr.lt g hv).1
      have h2 := ((h.rows u hu).lt g e.symm).2
      omega
theorem Three.all {V2 X : World} {n : Nat} {zs : List Int} {p q r : Value} (h : Three V2 X n zs [p, q, r]) : X.ownsRow V2.heap.size 21 1 p n (i32s zs) ∧ X.ownsRow V2.heap.size 21 1 q n (i32s zs) ∧ X.ownsRow V2.heap.size 21 1 r n (i32s zs) ∧ (p.ownBlock = none ∨ p.ownBlock ≠ q.ownBlock) ∧ (p.ownBlock = none ∨ p.ownBlock ≠ r.ownBlock) ∧ (q.ownBlock = none ∨ q.ownBlock ≠ r.ownBlock) := by
  have h1 := h.ap
  simp only [List.pairwise_cons, List.mem_cons, List.not_mem_nil, or_false] at h1
  exact ⟨h.rows p (by simp), h.rows q (by simp), h.rows r (by simp), h1.1 q (.inl rfl), h1.1 r (.inr rfl), h1.2.1 r rfl⟩
theorem fresh_three {V2 X : World} {n : Nat} {zs : List Int} {va vb vw : Value} (hn : zs.length = n) (hnb : n ≤ 1099511627776) (hB : V2.heap.size ≤ X.heap.size) (ra : X.ownsRow V2.heap.size 21 1 va n (i32s zs)) (rb : X.ownsRow V2.heap.size 21 1 vb n (i32s zs)) (rw : X.ownsRow V2.heap.size 21 1 vw n (i32s zs))
    (dab : va.ownBlock = none ∨ va.ownBlock ≠ vb.ownBlock) (dwa : vw.ownBlock = none ∨ vw.ownBlock ≠ va.ownBlock) (dwb : vw.ownBlock = none ∨ vw.ownBlock ≠ vb.ownBlock) :
    Calls Try.prog 12 #[va, vb, vw] X fun e w' => e = .returned (.bool true) ∧ Below V2.heap.size X w' := by
  obtain ⟨aw, cw, rfl⟩ := row_slice rw
  refine fresh_any X V2.heap.size va vb n aw cw zs hn hnb hB ⟨ra, rb, dab, reads_own rw, ?_, ?_⟩
  · intro x hx e
    subst hx
    rcases dwa with h | h
    · simp [Value.ownBlock] at h
    · exact h (by simpa [Value.ownBlock] using e)
  · intro x hx e
    subst hx
    rcases dwb with h | h
    · simp [Value.ownBlock] at h
    · exact h (by simpa [Value.ownBlock] using e)

theorem spots_is (f : Nat) (x : Value) (w : World) (h : f = 27) : (binOp .eql 34 (.func (.func f) #[] #[x]) .nilFunc).run Try.prog w = .ok (.bool false) w := by subst h; kernel_rfl
theorem new_blk {W : World} {n : Nat} {o : Obj} (h : n = W.heap.size) : (W.alloc o).heap[n]? = some o := by subst h; exact heap_alloc_new W _
theorem old_blk {W : World} {n : Nat} {o o' : Obj} (h : W.heap[n]? = some o) : (W.alloc o').heap[n]? = some o := (Below.heap_alloc W o' n (Array.getElem?_eq_some_iff.1 h).1).trans h

set_option maxRecDepth 100000 in
set_option maxHeartbeats 8000000 in
theorem walk (s : ByteArray) (few : Int) (w : World) (hs : s.size ≤ 1048576) :
    Calls Try.prog 3 #[.string s, .int .i64 few] w fun e w' => e = .returned (.bool true) ∧ Below w.heap.size w w' := by
  refine (callsIn_wide (n := 12)).1 ?_
  refine callsIn_of_wp_marks Try.func3 rfl trivial ?_ rfl
  simp only [Try.ntmps3, List.size_toArray, List.length_cons, List.length_nil, Nat.reduceAdd, Nat.reduceSub, Array.replicate_succ, Array.replicate_zero, List.push_toArray, List.append_toArray, List.nil_append, List.cons_append]
  have hF : ∀ f, Fence.wide.fn f := fun _ => trivial
  refine wpIn_wide.2 ?_
  have hcl := chars_length s 0
  have hpl := places_length s
  obtain ⟨i0, hi0, hz0, hz1, hz2⟩ := info_parts infoPair
  go_wp2_with fail
  refine (refSpots_any s _ (by omega)).mono ?_
  rintro e w1 ⟨v, rfl, hrow, hb1⟩
  obtain ⟨l, c, rfl, hx1, hsp⟩ := sc_row hrow
  clear hx1
  rw [hpl]
  have br1 := boxed_below (Boxed.new w 4 (.bool false)) hb1
  have hB1 : Below w.heap.size w w1 := below_after _ hb1 rfl
  clear hrow hb1
  generalize hL : (chars s 0).length = L at *
  have HL := hide hL
  have HPL := hide hpl
  clear hL hpl
  obtain ⟨W, hW⟩ : ∃ W, w1.alloc (.cells #[.slice l L c] 22) = W := ⟨_, rfl⟩
  have bl : Boxed W w1.heap.size 22 (.slice l L c) := by rw [← hW]; exact Boxed.new w1 _ _
  have br : Boxed W w.heap.size 4 (.bool false) := by rw [← hW]; exact br1.alloc _
  have hB : Below w.heap.size w W := by rw [← hW]; exact hB1.alloc hB1.size _
  have HSP : Hid (SpotsAt W s l (places s)) := by rw [← hW]; exact hsp.below ((Below.refl _ _).alloc (Nat.le_refl _) _)
  have cl := bl.cell
  clear br1 hB1 hsp
  go_wp2
  go_loopw [6, 7, 8] (fun v6 v7 v8 wr => ∃ i : Nat, i ≤ L ∧ v8 = .int .i64 i ∧ wr.ownsRow W.heap.size 29 2 v6 i (pairCells s ((places s).take i)) ∧ wr.ownsRow W.heap.size 29 2 v7 i (pairCells s ((places s).reverse.take i)) ∧ (v6.ownBlock = none ∨ v6.ownBlock ≠ v7.ownBlock) ∧ Below W.heap.size W wr) (fun _ _ v8 _ => L - (intOf v8).toNat)
  case atStart => exact ⟨0, Nat.zero_le _, rfl, by simpa [pairCells] using World.ownsRow_nil _ _ _ _, by simpa [pairCells] using World.ownsRow_nil _ _ _ _, .inl rfl, by first | exact Below.refl _ _ | (rw [hW]; exact Below.refl _ _)⟩
  case round =>
    obtain ⟨i, hi, rfl, hr6, hr7, hap, hBW⟩ := hrel
    have clW := (boxed_below bl hBW).cell
    have hBs := hBW.size
    obtain ⟨a6, n6, c6, rfl⟩ : ∃ a n c, u6 = .slice a n c := by
      rcases hr6.2 with ⟨rfl, _⟩ | ⟨g, cap, cur, rfl, _⟩
      · exact ⟨_, _, _, rfl⟩
      · exact ⟨_, _, _, rfl⟩
    obtain ⟨a7, n7, c7, rfl⟩ : ∃ a n c, u7 = .slice a n c := by
      rcases hr7.2 with ⟨rfl, _⟩ | ⟨g, cap, cur, rfl, _⟩
      · exact ⟨_, _, _, rfl⟩
      · exact ⟨_, _, _, rfl⟩
    by_cases hlt : i < L
    · obtain ⟨x, hx⟩ : ∃ x, (places s)[i]? = some x := ⟨_, List.getElem?_eq_getElem (by rw [unhide HPL]; exact hlt)⟩
      obtain ⟨y, hy⟩ : ∃ y, (places s)[L - 1 - i]? = some y := ⟨_, List.getElem?_eq_getElem (by rw [unhide HPL]; omega)⟩
      have HX1 : Hid (pairCells s ((places s).take (i + 1)) = pairCells s ((places s).take i) ++ [.int .i64 (x : Nat), .int .i32 ((Utf8.decode s x).1 : Nat)]) := by
        show _ = _
        rw [List.take_add_one, hx]; exact pairCells_snoc s _ x
      have HY1 : Hid (pairCells s ((places s).reverse.take (i + 1)) = pairCells s ((places s).reverse.take i) ++ [.int .i64 (y : Nat), .int .i32 ((Utf8.decode s y).1 : Nat)]) := by
        show _ = _
        rw [List.take_add_one, List.getElem?_reverse (by rw [unhide HPL]; exact hlt), unhide HPL, hy]; exact pairCells_snoc s _ y
      have hspW := (unhide HSP).below hBW
      obtain ⟨g, rfl, x0, _, x2, _⟩ := hspW i x hx
      obtain ⟨g', hg', y0, _, y2, _⟩ := hspW _ y hy
      obtain rfl : g = g' := by simpa using hg'
      have HYP := hide hy
      clear hg' hspW hx hy
      generalize (Utf8.decode s x).1 = R at *
      generalize hRY : (Utf8.decode s y).1 = R' at *
      have HRY := hide hRY
      clear hRY
      go_wp2
      refine wp_cutF ?F6 (fun v' w4 => w4.ownsRow W.heap.size 29 2 v' (i + 1) (pairCells s ((places s).take (i + 1))) ∧ w4.ownsRow W.heap.size 29 2 (.slice a7 n7 c7) i (pairCells s ((places s).reverse.take i)) ∧ (v'.ownBlock = none ∨ v'.ownBlock ≠ (Value.slice a7 n7 c7).ownBlock) ∧ Below W.heap.size W w4) ?h6 ?k6
      case h6 =>
        go_region_law (refine step_append_own rfl (.tmp 23) (.tmp 35) 24 rfl W.heap.size 29 i0 (.agg #[.int .i64 0, .int .i32 0]) 2 16 Try.underlying24 hi0 hz0 hz1 hz2 rfl (by decide) (.slice a6 n6 c6) i _ (by simp [Act.eval]) ((show wr.drew.ownsRow _ _ _ _ _ _ from hr6).alloc _) ⟨wr.heap.size, 0, none⟩ 1 1 [.int .i64 (x : Nat), .int .i32 (R : Nat)] (by simp [Act.eval]) rfl (cell_two_new wr.drew _ _ _) (by simp [Value.oneCell']) (by unfold maxLen; omega) (by omega) (by simp; omega) ?_; intro v' w4 hown' hgrow hblk)
        all_goals
          refine onlyN_mk ⟨v', ⟨by rw [unhide HX1]; exact hown', grown_rows hr6 hr7 hap hBW hgrow hblk⟩, ?_⟩
          rfl
      case k6 =>
        rintro v6 w4 ⟨hq6, hq7, hap4, hBW4⟩
        have clW4 := (boxed_below bl hBW4).cell
        have hspW4 := (unhide HSP).below hBW4
        have hBs4 := hBW4.size
        obtain ⟨g2, hg2, z0, _, z2, _⟩ := hspW4 _ y (unhide HYP)
        obtain rfl : g = g2 := by simpa using hg2
        have HZ2 := hide z2
        rw [unhide HRY] at z2
        clear hg2 hspW4 HZ2 x0 x2 y0 y2 clW hr6 hr7 hap hBW
        have hti : ((L : Int) - 1 - (i : Int)).toNat = L - 1 - i := by omega
        have hid1 : (i : Int) ≤ (L : Int) - 1 := by omega
        have hid2 : (L : Int) - 1 - (i : Int) < (L : Int) := by omega
        go_wp2
        refine wp_cutF (α := Value) ?F8 (fun v' w5 => w5.ownsRow W.heap.size 29 2 v6 (i + 1) (pairCells s ((places s).take (i + 1))) ∧ w5.ownsRow W.heap.size 29 2 v' (i + 1) (pairCells s ((places s).reverse.take (i + 1))) ∧ (v6.ownBlock = none ∨ v6.ownBlock ≠ v'.ownBlock) ∧ Below W.heap.size W w5) ?h8 ?k8
        case h8 =>
          go_region_law (refine step_append_own rfl (.tmp 42) (.tmp 54) 24 rfl W.heap.size 29 i0 (.agg #[.int .i64 0, .int .i32 0]) 2 16 Try.underlying24 hi0 hz0 hz1 hz2 rfl (by decide) (.slice a7 n7 c7) i _ (by simp [Act.eval]) ((show w4.drew.ownsRow _ _ _ _ _ _ from hq7).alloc _) ⟨w4.heap.size, 0, none⟩ 1 1 [.int .i64 (y : Nat), .int .i32 (R' : Nat)] (by simp [Act.eval]) rfl (cell_two_new w4.drew _ _ _) (by simp [Value.oneCell']) (by unfold maxLen; omega) (by omega) (by simp; omega) ?_; intro v' w5 hown' hgrow hblk)
          all_goals
            have hgr := grown_rows hq7 hq6 (apart_symm hap4) hBW4 hgrow hblk
            refine onlyN_mk ⟨v', ⟨hgr.1, by rw [unhide HY1]; exact hown', apart_symm hgr.2.1, hgr.2.2⟩, ?_⟩
            rfl
        case k8 =>
          rintro v7 w5 ⟨hp6, hp7, hap5, hBW5⟩
          go_wp2
          go_roundw
          case rel => exact ⟨i + 1, by omega, by go_num, hp6, hp7, hap5, hBW5⟩
          case measure => simp [intOf]; omega
    · obtain rfl : i = L := by omega
      rw [List.take_of_length_le (by rw [unhide HPL]; exact Nat.le_refl _)] at hr6
      rw [List.take_of_length_le (by rw [List.length_reverse, unhide HPL]; exact Nat.le_refl _)] at hr7
      obtain ⟨a6', c6', he6, hx6, ho6⟩ := pr_row hr6
      obtain ⟨a7', c7', he7, hx7, ho7⟩ := pr_row hr7
      clear hx6 hx7
      have hk6 := pr_cap hr6 he6
      have hk7 := pr_cap hr7 he7
      obtain ⟨rfl, rfl, rfl⟩ : a6 = a6' ∧ n6 = i ∧ c6 = c6' := by simpa using he6
      obtain ⟨rfl, rfl, rfl⟩ : a7 = a7' ∧ n7 = n6 ∧ c7 = c7' := by simpa using he7
      have hst : RSt w wr s w1.heap.size n7 c l a6 a7 := ⟨boxed_below bl hBW, boxed_below br hBW, (unhide HSP).below hBW, ho6, ho7, below2 hB hBW⟩
      clear he6 he7 ho6 ho7 hr6 hr7 hap bl br HSP hB hBW hlt hi clW cl hW hBs
      have HGO : Hid (∀ W', Calls Try.prog 7 #[.string s, .bool false, .int .i64 (-1)] W' fun e w' => ∃ a c, e = .returned (.slice a n7 c) ∧ PairsAt w' s a (places s) ∧ Below W'.heap.size W' w') := by
        intro W'
        refine (gather_on s (-1) W' (by omega) (by omega)).mono ?_
        rintro e w' ⟨v, rfl, hown, hb⟩
        obtain ⟨a, c, rfl, hl, hp⟩ := pr_row hown
        exact ⟨a, c, by rw [show (fewOf (-1) (places s)).length = n7 from unhide HPL], hp, hb⟩
      have HGB : Hid (∀ W', Calls Try.prog 7 #[.string s, .bool true, .int .i64 (-1)] W' fun e w' => ∃ a c, e = .returned (.slice a n7 c) ∧ PairsAt w' s a (places s).reverse ∧ Below W'.heap.size W' w') := by
        intro W'
        refine (gather_back s (-1) W' (by omega) (by omega)).mono ?_
        rintro e w' ⟨v, rfl, hown, hb⟩
        obtain ⟨a, c, rfl, hl, hp⟩ := pr_row hown
        exact ⟨a, c, by rw [show (fewOf (-1) (places s).reverse).length = n7 from (List.length_reverse).trans (unhide HPL)], hp, hb⟩
      have HCT : Hid (∀ W', Calls Try.prog 8 #[.string s] W' fun e w' => e = .returned (.int .i64 (n7 : Nat)) ∧ Below W'.heap.size W' w') := by
        intro W'
        have := count_any s W' (by unfold maxLen; omega)
        rwa [unhide HL] at this
      have HPO : Hid (∀ (W' : World) a ca cb b, PairsAt W' s a (places s) → PairsAt W' s b (places s) → Calls Try.prog 6 #[.slice a n7 ca, .slice b n7 cb] W' fun e w' => e = .returned (.bool true) ∧ Below W'.heap.size W' w') := fun W' a ca cb b h1 h2 => pairs_yes a b ca cb n7 s (places s) W' (unhide HPL).symm (by omega) h1 h2
      have HPB : Hid (∀ (W' : World) a ca cb b, PairsAt W' s a (places s).reverse → PairsAt W' s b (places s).reverse → Calls Try.prog 6 #[.slice a n7 ca, .slice b n7 cb] W' fun e w' => e = .returned (.bool true) ∧ Below W'.heap.size W' w') := fun W' a ca cb b h1 h2 => pairs_yes a b ca cb n7 s (places s).reverse W' (by rw [List.length_reverse]; exact (unhide HPL).symm) (by omega) h1 h2
      have dn : ((n7 : Int) != (n7 : Int)) = false := by simp
      have cw := hst.want.cell
      go_wp2
      refine wp_cut4 ?F9 (fun X => RSt w X s w1.heap.size n7 c l a6 a7) ?h9 ?k9
      case h9 =>
        have hst' := hst.drew
        have cw := hst'.want.cell
        go_region_held (fun X => X.cell? ⟨w1.heap.size, 0, none⟩ = some (.slice l n7 c)) (first | exact cw | exact hst'.want.cell) (first
          | (go_at_call 7; first
              | (with_reducible refine (unhide HGO _).mono ?_; rintro e wA ⟨aA, cA, rfl, hPA, hbA⟩; have hst' := hst'.below hbA; have cw := hst'.want.cell)
              | (with_reducible refine (unhide HGB _).mono ?_; rintro e wB ⟨aB, cB, rfl, hPB, hbB⟩; have hst' := hst'.below hbB; have cw := hst'.want.cell))
          | (go_at_call 6; first
              | (with_reducible refine (unhide HPO _ aA cA c6 a6 hPA hst'.on).mono ?_; rintro e wC ⟨rfl, hbC⟩; have hst' := hst'.below hbC; have cw := hst'.want.cell)
              | (with_reducible refine (unhide HPB _ aB cB c7 a7 hPB hst'.back).mono ?_; rintro e wD ⟨rfl, hbD⟩; have hst' := hst'.below hbD; have cw := hst'.want.cell))
          | (go_at_call 8; with_reducible refine (unhide HCT _).mono ?_; rintro e wE ⟨rfl, hbE⟩; have hst' := hst'.below hbE; have cw := hst'.want.cell))
        all_goals
          refine onlyN_mk ⟨aA, cA, aB, cB, hst', ?_⟩
          rfl
      case k9 =>
        intro aA cA aB cB X9 hst9
        clear HGO HGB HCT HPO HPB dn cw
        have HDN := hide (fun nq => hst9.below (below_drewN (Below.refl _ X9) nq))
        by_cases hfew : 0 ≤ few ∧ few < n7
        · obtain ⟨f, rfl⟩ : ∃ f : Nat, few = f := ⟨few.toNat, by omega⟩
          have hf : f < n7 := by omega
          have HF7 : Hid (0 < n7) := Nat.lt_of_le_of_lt (Nat.zero_le f) hf
          have HFO : Hid ((fewOf (f : Int) (places s)).length = f + 1) := by
            show _ = _
            unfold fewOf
            rw [if_neg (by omega), List.length_take, unhide HPL]; omega
          have HFB : Hid ((fewOf (f : Int) (places s).reverse).length = f + 1) := by
            show _ = _
            unfold fewOf
            rw [if_neg (by omega), List.length_take, List.length_reverse, unhide HPL]; omega
          have HGO : Hid (∀ W', Calls Try.prog 7 #[.string s, .bool false, .int .i64 f] W' fun e w' => ∃ a c, e = .returned (.slice a (f + 1) c) ∧ PairsAt w' s a (fewOf f (places s)) ∧ Below W'.heap.size W' w') := by
            intro W'
            refine (gather_on s f W' (by omega) (by omega)).mono ?_
            rintro e w' ⟨v, rfl, hown, hb⟩
            obtain ⟨a, c, rfl, hl, hp⟩ := pr_row hown
            exact ⟨a, c, by rw [unhide HFO], hp, hb⟩
          have HGB : Hid (∀ W', Calls Try.prog 7 #[.string s, .bool true, .int .i64 f] W' fun e w' => ∃ a c, e = .returned (.slice a (f + 1) c) ∧ PairsAt w' s a (fewOf f (places s).reverse) ∧ Below W'.heap.size W' w') := by
            intro W'
            refine (gather_back s f W' (by omega) (by omega)).mono ?_
            rintro e w' ⟨v, rfl, hown, hb⟩
            obtain ⟨a, c, rfl, hl, hp⟩ := pr_row hown
            exact ⟨a, c, by rw [unhide HFB], hp, hb⟩
          have HPO : Hid (∀ (W' : World) a ca cb b, PairsAt W' s a (fewOf f (places s)) → PairsAt W' s b (places s) → Calls Try.prog 6 #[.slice a (f + 1) ca, .slice b (f + 1) cb] W' fun e w' => e = .returned (.bool true) ∧ Below W'.heap.size W' w') := fun W' a ca cb b h1 h2 => pairs_yes a b ca cb (f + 1) s (fewOf f (places s)) W' (unhide HFO).symm (by omega) h1 (pairs_few h2 f)
          have HPB : Hid (∀ (W' : World) a ca cb b, PairsAt W' s a (fewOf f (places s).reverse) → PairsAt W' s b (places s).reverse → Calls Try.prog 6 #[.slice a (f + 1) ca, .slice b (f + 1) cb] W' fun e w' => e = .returned (.bool true) ∧ Below W'.heap.size W' w') := fun W' a ca cb b h1 h2 => pairs_yes a b ca cb (f + 1) s (fewOf f (places s).reverse) W' (unhide HFB).symm (by omega) h1 (pairs_few h2 f)
          have d1 : (decide ((0 : Int) ≤ (f : Int))) = true := by simp
          have d2 : (decide ((f : Int) < (n7 : Int))) = true := by simpa using hf
          have d3 : (decide (f < n7)) = true := by simpa using hf
          have hw1 : IntKind.i64.wrap ((f : Int) + 1) = ((f + 1 : Nat) : Int) := by rw [IntKind.wrap_i64]; omega
          have hc6 : f + 1 ≤ c6 := by omega
          have hc7 : f + 1 ≤ c7 := by omega
          go_wp2
          refine wp_cut4 ?F11 (fun X => RSt w X s w1.heap.size n7 c l a6 a7) ?h11 ?k11
          case h11 =>
            have hst' := hst9.drew
            have cw := hst'.want.cell
            go_region_held (fun X => X.cell? ⟨w1.heap.size, 0, none⟩ = some (.slice l n7 c)) (exact cw) (first
              | (go_at_call 7; first
                  | (with_reducible refine (unhide HGO _).mono ?_; rintro e wA ⟨aA', cA', rfl, hPA, hbA⟩; have hst' := hst'.below hbA; have cw := hst'.want.cell)
                  | (with_reducible refine (unhide HGB _).mono ?_; rintro e wB ⟨aB', cB', rfl, hPB, hbB⟩; have hst' := hst'.below hbB; have cw := hst'.want.cell))
              | (go_at_call 6; first
                  | (with_reducible refine (unhide HPO _ aA' cA' c6 a6 hPA hst'.on).mono ?_; rintro e wC ⟨rfl, hbC⟩; have hst' := hst'.below hbC; have cw := hst'.want.cell)
                  | (with_reducible refine (unhide HPB _ aB' cB' c7 a7 hPB hst'.back).mono ?_; rintro e wD ⟨rfl, hbD⟩; have hst' := hst'.below hbD; have cw := hst'.want.cell)))
            all_goals
              refine onlyN_mk ⟨aA', cA', aB', cB', hst', ?_⟩
              rfl
          case k11 =>
            intro aA' cA' aB' cB' X11 hst11
            clear HGO HGB HPO HPB
            have cr := hst11.res.cell
            have hws := fun x w => spots_is _ x w rfl
            go_wp2_with (go_at_call 9; refine (spots_in s _).mono ?_; rintro e w' ⟨rfl, rfl⟩)
            obtain ⟨W0, hW0⟩ : ∃ W0, (X11.alloc (Obj.cells #[Value.int IntKind.i64 0] 3)).alloc (Obj.cells #[Value.string s] 9) = W0 := ⟨_, rfl⟩
            have hsz0 : W0.heap.size = X11.heap.size + 2 := by rw [← hW0]; simp
            have g0 : Below X11.heap.size X11 W0 := by rw [← hW0]; go_grown
            have bn0 : W0.heap[X11.heap.size]? = some (.cells #[.int .i64 0] 3) := by rw [← hW0]; exact old_blk (new_blk rfl)
            have bq0 : Boxed W0 (X11.heap.size + 1) 9 (.string s) := by rw [← hW0]; exact new_blk (by simp)
            rw [hW0]
            clear hW0 hws cr
            have HST := hide (fun (V : World) (h : Below X11.heap.size X11 V) => hst11.below h)
            clear hst11
            generalize hNB : X11.heap.size = NB at *
            refine (wpIn_wide (n := 12)).1 ?_
            refine rangeB (by omega) (gf := 27) (lb := #[.pointer (some ⟨NB + 1, 0, none⟩)]) rfl (enters_of Try.func27 (by kernel_rfl) rfl)
              (spots_stops s (by unfold maxLen; omega) _ (NB + 1) (by omega) W0 bq0) kpS_t kpS_b (Below.refl _ _) (fun _ => rfl)
              (fun pre V => Hid (pre.map (·.1) = (places s).take pre.length) ∧ Boxed V NB 3 (.int .i64 (pre.length : Nat)) ∧ Below NB W0 V)
              (fun c pre V => ¬ pre.map (·.1) = (places s).take pre.length)
              ((own_pure _ _).and ((Own.from (boxed_own _ _ _) _).and (ownFrom_below (by omega) (by omega))))
              (fun c => own_pure _ _)
              ⟨rfl, bn0, Below.refl _ _⟩
              (fun x => spotBlk s x.1) (fun _ => rfl)
              ?a1 ?assign1 ?body1 ?done1 ?stop1
            case assign1 =>
              rintro l2 pre x V K ⟨h1, h2, h3⟩ hK
              have hsz6 := h3.size
              have hK2 := hK V.heap.size (V.alloc (spotBlk s x.1)) ((KeepsOthers.alloc _ _).from _) ⟨KeepsWalks.alloc _ _, fun h => h.alloc _⟩ ⟨h1, h2.alloc _, h3.alloc (by omega) _⟩ (heap_alloc_new V _) (by omega)
              gi_wp2
              generalize V.heap.size = B at hK2 ⊢
              exact hK2
            case body1 =>
              rintro l2 pre x Bx V hl ⟨r, hr⟩ ⟨HPR, hn, hbel⟩ hx hBx hlen
              have hstV := unhide HST V (g0.trans hbel)
              obtain ⟨x0, x1, x2, x3⟩ := spot_cells hx
              have cw := hstV.want.cell
              have cn := hn.cell
              have fn := hn.frozen
              have cr := hstV.res.cell
              have fr := hstV.res.frozen
              by_cases hlt : pre.length < n7
              · obtain ⟨y, hy⟩ : ∃ y, (places s)[pre.length]? = some y := ⟨_, List.getElem?_eq_getElem (by rw [unhide HPL]; exact hlt)⟩
                obtain ⟨g, hgg, y0, y1, y2, y3⟩ := hstV.sp pre.length y hy
                subst hgg
                have dl : decide ((n7 : Int) ≤ (pre.length : Int)) = false := by simp; omega
                have dl2 : decide (n7 ≤ pre.length) = false := by simp; omega
                by_cases he : x.1 = y
                · have HSP : Hid ((pre ++ [x]).map (·.1) = (places s).take (pre ++ [x]).length) := by
                    show _ = _
                    rw [List.map_append, HPR.out, List.length_append, List.length_singleton, List.take_add_one, hy, ← he]; rfl
                  rw [← he] at y0 y1 y2 y3
                  have HE := hide he
                  clear he hy HPR
                  gi_wp2
                  refine Reads.wpIn_region_quiet (by kernel_rfl) (by kernel_rfl) (by kernel_rfl) ?_
                  repeat (go_big_quiet_step (fail))
                  refine wpQuiet_nil ?_
                  intro _ hw'
                  obtain ⟨nq, hw''⟩ := hw'
                  subst hw''
                  have hn1 : Boxed (V.drewN nq) NB 3 (.int .i64 (pre.length : Nat)) := hn
                  have hr1 : Boxed (V.drewN nq) w.heap.size 4 (.bool false) := hstV.res
                  have hb1 : Below NB W0 (V.drewN nq) := below_drewN hbel nq
                  have hk1 : KeepsOthers V (V.drewN nq) := ⟨Nat.le_refl _, fun _ _ h _ => h⟩
                  have hs1 : Boxed V (NB + 1) 9 (.string s) → Boxed (V.drewN nq) (NB + 1) 9 (.string s) := fun h => h
                  generalize V.drewN nq = V1 at *
                  clear x0 x1 x2 x3 cw cn fn cr fr
                  have cn := hn1.cell
                  have fn := hn1.frozen
                  have cr := hr1.cell
                  have fr := hr1.frozen
                  gi_wp2
                  refine ⟨(hk1.trans (KeepsOthers.setCell _ _ _)).from _, ⟨(hk1.trans (KeepsOthers.setCell _ _ _)).walks, fun h => (hs1 h).other (by omega) _⟩, unhide HSP, ?_, hb1.setCell (p := ⟨NB, 0, none⟩) (by simp) _⟩
                  rw [List.length_append]
                  exact hn1.set _
                · have HNO : Hid (¬ (pre ++ [x]).map (·.1) = (places s).take (pre ++ [x]).length) := by
                    intro h
                    rw [List.map_append, HPR.out, List.length_append, List.length_singleton, List.take_add_one, hy] at h
                    have h' := List.append_cancel_left h
                    simp at h'
                    exact he h'
                  have q0 : (((x.1 : Nat) : Int) == ((y : Nat) : Int)) = false := by simp; omega
                  have HE := hide he
                  clear he hy HPR
                  gi_wp2
                  refine Reads.wpIn_region_quiet (by kernel_rfl) (by kernel_rfl) (by kernel_rfl) ?_
                  repeat (go_big_quiet_step (fail))
                  refine wpQuiet_nil ?_
                  intro _ hw'
                  obtain ⟨nq, hw''⟩ := hw'
                  subst hw''
                  have hn1 : Boxed (V.drewN nq) NB 3 (.int .i64 (pre.length : Nat)) := hn
                  have hr1 : Boxed (V.drewN nq) w.heap.size 4 (.bool false) := hstV.res
                  have hb1 : Below NB W0 (V.drewN nq) := below_drewN hbel nq
                  have hk1 : KeepsOthers V (V.drewN nq) := ⟨Nat.le_refl _, fun _ _ h _ => h⟩
                  have hs1 : Boxed V (NB + 1) 9 (.string s) → Boxed (V.drewN nq) (NB + 1) 9 (.string s) := fun h => h
                  generalize V.drewN nq = V1 at *
                  clear x0 x1 x2 x3 cw cn fn cr fr
                  have cn := hn1.cell
                  have fn := hn1.frozen
                  have cr := hr1.cell
                  have fr := hr1.frozen
                  gi_wp2
                  exact ⟨(hk1.trans (KeepsOthers.setCell _ _ _)).from _, unhide HNO⟩
              · have HNO : Hid (¬ (pre ++ [x]).map (·.1) = (places s).take (pre ++ [x]).length) := by
                  intro h
                  have h' := congrArg List.length h
                  rw [List.length_map, List.length_take, unhide HPL, List.length_append, List.length_singleton] at h'
                  omega
                have dl : decide ((n7 : Int) ≤ (pre.length : Int)) = true := by simp; omega
                have dl2 : decide (n7 ≤ pre.length) = true := by simp; omega
                gi_wp2
                refine Reads.wpIn_region_quiet (by kernel_rfl) (by kernel_rfl) (by kernel_rfl) ?_
                repeat (go_big_quiet_step (fail))
                refine wpQuiet_nil ?_
                intro _ hw'
                obtain ⟨nq, hw''⟩ := hw'
                subst hw''
                have hn1 : Boxed (V.drewN nq) NB 3 (.int .i64 (pre.length : Nat)) := hn
                have hr1 : Boxed (V.drewN nq) w.heap.size 4 (.bool false) := hstV.res
                have hb1 : Below NB W0 (V.drewN nq) := below_drewN hbel nq
                have hk1 : KeepsOthers V (V.drewN nq) := ⟨Nat.le_refl _, fun _ _ h _ => h⟩
                have hs1 : Boxed V (NB + 1) 9 (.string s) → Boxed (V.drewN nq) (NB + 1) 9 (.string s) := fun h => h
                generalize V.drewN nq = V1 at *
                clear x0 x1 x2 x3 cw cn fn cr fr
                have cn := hn1.cell
                have fn := hn1.frozen
                have cr := hr1.cell
                have fr := hr1.frozen
                gi_wp2
                exact ⟨(hk1.trans (KeepsOthers.setCell _ _ _)).from _, unhide HNO⟩
            case done1 =>
              rintro D1 ys V hD hS ⟨HPR, hn, hbel⟩ hK
              have hys : ys.length = n7 := by
                have h8 := congrArg List.length (show ys.map (·.1) = places s from hS)
                rw [List.length_map, unhide HPL] at h8; exact h8
              rw [hys] at hn
              clear HPR hS hys
              have hstV := unhide HST V (g0.trans hbel)
              have hb7 : s.size ≤ maxLen := by unfold maxLen; omega
              have hen : ((n7 : Int) == (n7 : Int)) = true := by simp
              by_cases h0 : 0 < n7
              · have h0s : 0 < s.size := by omega
                obtain ⟨g, hgg, f0, f1, f2, f3⟩ := hstV.sp 0 0 (first_whole s (by rw [unhide HL]; exact h0))
                obtain ⟨g', hgg', z0, z1, z2, z3⟩ := hstV.sp (n7 - 1) (lastPos s) (by have := last_whole s (by rw [unhide HL]; exact h0); rwa [unhide HL] at this)
                subst hgg
                obtain rfl : g = g' := by simpa using hgg'
                have HFI : Hid (∀ X, Calls Try.prog 10 #[.string s] X fun e w' => e = .returned (spotV (0 : Nat) ((Utf8.decode s 0).2 : Nat) ((Utf8.decode s 0).1 : Nat) (why s 0)) ∧ Below X.heap.size X w') := fun X => first_any s X hb7 h0s
                have HLA : Hid (∀ X, Calls Try.prog 11 #[.string s] X fun e w' => e = .returned (spotV (lastPos s : Nat) ((Utf8.decode s (lastPos s)).2 : Nat) ((Utf8.decode s (lastPos s)).1 : Nat) (why s (lastPos s))) ∧ Below X.heap.size X w') := fun X => last_any s X hb7 h0s
                have hgl : g < V.heap.size := by
                  refine Decidable.byContradiction fun hn => ?_
                  have hnn : V.heap[g]? = none := Array.getElem?_eq_none (by omega)
                  simp [World.cell?, hnn] at f0
                generalize (Utf8.decode s 0).2 = D0 at *
                generalize (Utf8.decode s 0).1 = R0 at *
                generalize why s 0 = C0 at *
                generalize (Utf8.decode s (lastPos s)).2 = Dz at *
                generalize (Utf8.decode s (lastPos s)).1 = Rz at *
                generalize why s (lastPos s) = Cz at *
                generalize lastPos s = Pz at *
                have al : ∀ o o1, Below V.heap.size V ((V.alloc o).alloc o1) := fun o o1 => ((Below.refl _ _).alloc (Nat.le_refl _) o).alloc (by simp) o1
                have cw := fun o o1 => ((hstV.want.alloc o).alloc o1).cell
                have e0 : ∀ o o1, ((V.alloc o).alloc o1).cell? ⟨g, 0, none⟩ = some (.int .i64 (0 : Nat)) := fun o o1 => ((al o o1).cell (p := ⟨g, 0, none⟩) hgl).trans (by simpa using f0)
                have e1 : ∀ o o1, ((V.alloc o).alloc o1).cell? ⟨g, 1, none⟩ = some (.int .i64 (D0 : Nat)) := fun o o1 => ((al o o1).cell (p := ⟨g, 1, none⟩) hgl).trans (by simpa using f1)
                have e2 : ∀ o o1, ((V.alloc o).alloc o1).cell? ⟨g, 2, none⟩ = some (.int .i32 (R0 : Nat)) := fun o o1 => ((al o o1).cell (p := ⟨g, 2, none⟩) hgl).trans (by simpa using f2)
                have e3 : ∀ o o1, ((V.alloc o).alloc o1).cell? ⟨g, 3, none⟩ = some (.int .i64 C0) := fun o o1 => ((al o o1).cell (p := ⟨g, 3, none⟩) hgl).trans (by simpa using f3)
                obtain ⟨q, hq⟩ : ∃ q, n7 = q + 1 := ⟨n7 - 1, by omega⟩
                rw [show n7 - 1 = q by omega] at z0 z1 z2 z3
                have k0 : ∀ o o1, ((V.alloc o).alloc o1).cell? ⟨g, q * 4, none⟩ = some (.int .i64 (Pz : Nat)) := fun o o1 => ((al o o1).cell (p := ⟨g, q * 4, none⟩) hgl).trans z0
                have k1 : ∀ o o1, ((V.alloc o).alloc o1).cell? ⟨g, q * 4 + 1, none⟩ = some (.int .i64 (Dz : Nat)) := fun o o1 => ((al o o1).cell (p := ⟨g, q * 4 + 1, none⟩) hgl).trans z1
                have k2 : ∀ o o1, ((V.alloc o).alloc o1).cell? ⟨g, q * 4 + 2, none⟩ = some (.int .i32 (Rz : Nat)) := fun o o1 => ((al o o1).cell (p := ⟨g, q * 4 + 2, none⟩) hgl).trans z2
                have k3 : ∀ o o1, ((V.alloc o).alloc o1).cell? ⟨g, q * 4 + 3, none⟩ = some (.int .i64 Cz) := fun o o1 => ((al o o1).cell (p := ⟨g, q * 4 + 3, none⟩) hgl).trans z3
                have i1 : (n7 : Int) - 1 = (q : Int) := by omega
                have i2 : (q : Int) < (n7 : Int) := by omega
                have i3 : q < n7 := by omega
                have i4 : decide ((0 : Int) < (n7 : Int)) = true := by simp; omega
                have i5 : decide (0 < n7) = true := by simp; omega
                have HQ := hide hq
                clear f0 f1 f2 f3 z0 z1 z2 z3 hq hgg'
                have HRU : Hid (∀ X, Calls Try.prog 13 #[.string s] X fun e w' => ∃ v, e = .returned v ∧ w'.ownsRow X.heap.size 21 1 v n7 (i32s (runeInts s)) ∧ Below X.heap.size X w') := by
                  intro X
                  refine (runes_any s X (by omega)).mono ?_
                  rintro e w' ⟨cp, rfl, hr, hb⟩
                  rw [runeInts_vals, unhide HL] at hr
                  exact ⟨_, by rw [unhide HL], hr, hb⟩
                have HRR : Hid (∀ X, Calls Try.prog 14 #[.string s] X fun e w' => ∃ v, e = .returned v ∧ w'.ownsRow X.heap.size 21 1 v n7 (i32s (runeInts s)) ∧ Below X.heap.size X w') := by
                  intro X
                  have := refRunes_any s X (by omega)
                  rwa [unhide HL] at this
                have HRN : Hid ((runeInts s).length = n7) := (runeInts_len s).trans (unhide HL)
                gi_wp2
                go_wp2
                obtain ⟨V2, hV2⟩ : ∃ V2, (V.alloc (Obj.cells #[Value.int IntKind.i64 0, Value.int IntKind.i64 (D0 : Nat), Value.int IntKind.i32 (R0 : Nat), Value.int IntKind.i64 C0] 27)).alloc (Obj.cells #[Value.int IntKind.i64 (Pz : Nat), Value.int IntKind.i64 (Dz : Nat), Value.int IntKind.i32 (Rz : Nat), Value.int IntKind.i64 Cz] 27) = V2 := ⟨_, rfl⟩
                have hb2 : Below V.heap.size V V2 := by rw [← hV2]; exact al _ _
                have bf : V2.heap[V.heap.size]? = some (.cells #[Value.int IntKind.i64 0, Value.int IntKind.i64 (D0 : Nat), Value.int IntKind.i32 (R0 : Nat), Value.int IntKind.i64 C0] 27) := by rw [← hV2]; exact old_blk (new_blk rfl)
                have bz : V2.heap[V.heap.size + 1]? = some (.cells #[Value.int IntKind.i64 (Pz : Nat), Value.int IntKind.i64 (Dz : Nat), Value.int IntKind.i32 (Rz : Nat), Value.int IntKind.i64 Cz] 27) := by rw [← hV2]; exact new_blk (by simp)
                have hn2 := boxed_below hn hb2
                have hw2 := boxed_below hstV.want hb2
                have hr2 := boxed_below hstV.res hb2
                have hK2 : V2.heap[D1]? = some (Obj.deferred (some [])) := (hb2.block D1 (Array.getElem?_eq_some_iff.1 hK).1).trans hK
                have hB2 : Below w.heap.size w V2 := hstV.bel.trans (hb2.mono hstV.bel.size)
                have hlr : w.heap.size < NB := by have := (unhide HST X11 (Below.refl _ _)).res.lt; omega
                have hlv : NB < V.heap.size := hn.lt
                have hlw : w1.heap.size ≠ w.heap.size := fun e => by
                  have h1 : V.heap[w1.heap.size]? = _ := hstV.want
                  have h2 : V.heap[w.heap.size]? = _ := hstV.res
                  rw [e, h2] at h1
                  cases h1
                rw [hV2]
                have HSS : Hid (∀ X, Below V2.heap.size V2 X → (X.cell? ⟨NB, 0, none⟩ = some (.int .i64 (n7 : Nat)) ∧ X.cell? ⟨w1.heap.size, 0, none⟩ = some (.slice (some ⟨g, 0, none⟩) n7 c) ∧ (X.cell? ⟨V.heap.size, 0, none⟩ = some (.int .i64 0) ∧ X.cell? ⟨V.heap.size, 1, none⟩ = some (.int .i64 (D0 : Nat)) ∧ X.cell? ⟨V.heap.size, 2, none⟩ = some (.int .i32 (R0 : Nat)) ∧ X.cell? ⟨V.heap.size, 3, none⟩ = some (.int .i64 C0)) ∧ (X.cell? ⟨V.heap.size + 1, 0, none⟩ = some (.int .i64 (Pz : Nat)) ∧ X.cell? ⟨V.heap.size + 1, 1, none⟩ = some (.int .i64 (Dz : Nat)) ∧ X.cell? ⟨V.heap.size + 1, 2, none⟩ = some (.int .i32 (Rz : Nat)) ∧ X.cell? ⟨V.heap.size + 1, 3, none⟩ = some (.int .i64 Cz)))) := by
                  intro X hX
                  exact ⟨(boxed_below hn2 hX).cell, (boxed_below hw2 hX).cell, cell_four _ _ _ _ _ _ _ ((hX.block _ (Array.getElem?_eq_some_iff.1 bf).1).trans bf), cell_four _ _ _ _ _ _ _ ((hX.block _ (Array.getElem?_eq_some_iff.1 bz).1).trans bz)⟩
                have HS9 : Hid (∀ X, Below V2.heap.size V2 X → ((X.setCell ⟨w.heap.size, 0, none⟩ (.bool true)).cell? ⟨NB, 0, none⟩ = some (.int .i64 (n7 : Nat)) ∧ (X.setCell ⟨w.heap.size, 0, none⟩ (.bool true)).cell? ⟨w1.heap.size, 0, none⟩ = some (.slice (some ⟨g, 0, none⟩) n7 c) ∧ ((X.setCell ⟨w.heap.size, 0, none⟩ (.bool true)).cell? ⟨V.heap.size, 0, none⟩ = some (.int .i64 0) ∧ (X.setCell ⟨w.heap.size, 0, none⟩ (.bool true)).cell? ⟨V.heap.size, 1, none⟩ = some (.int .i64 (D0 : Nat)) ∧ (X.setCell ⟨w.heap.size, 0, none⟩ (.bool true)).cell? ⟨V.heap.size, 2, none⟩ = some (.int .i32 (R0 : Nat)) ∧ (X.setCell ⟨w.heap.size, 0, none⟩ (.bool true)).cell? ⟨V.heap.size, 3, none⟩ = some (.int .i64 C0)) ∧ ((X.setCell ⟨w.heap.size, 0, none⟩ (.bool true)).cell? ⟨V.heap.size + 1, 0, none⟩ = some (.int .i64 (Pz : Nat)) ∧ (X.setCell ⟨w.heap.size, 0, none⟩ (.bool true)).cell? ⟨V.heap.size + 1, 1, none⟩ = some (.int .i64 (Dz : Nat)) ∧ (X.setCell ⟨w.heap.size, 0, none⟩ (.bool true)).cell? ⟨V.heap.size + 1, 2, none⟩ = some (.int .i32 (Rz : Nat)) ∧ (X.setCell ⟨w.heap.size, 0, none⟩ (.bool true)).cell? ⟨V.heap.size + 1, 3, none⟩ = some (.int .i64 Cz)))) := by
                  intro X hX
                  exact ⟨((boxed_below hn2 hX).other (by omega) _).cell, ((boxed_below hw2 hX).other (by omega) _).cell, cell_four _ _ _ _ _ _ _ ((Below.heap_setCell _ _ _ _ (by show _ ≠ w.heap.size; omega)).trans ((hX.block _ (Array.getElem?_eq_some_iff.1 bf).1).trans bf)), cell_four _ _ _ _ _ _ _ ((Below.heap_setCell _ _ _ _ (by show _ ≠ w.heap.size; omega)).trans ((hX.block _ (Array.getElem?_eq_some_iff.1 bz).1).trans bz))⟩
                have HRS : Hid (∀ X, Below V2.heap.size V2 X → Boxed X w.heap.size 4 (.bool false)) := fun X hX => boxed_below hr2 hX
                have HKK : Hid (∀ X, Below V2.heap.size V2 X → X.heap[D1]? = some (Obj.deferred (some []))) := fun X hX => (hX.block D1 (Array.getElem?_eq_some_iff.1 hK2).1).trans hK2
                have hbX : Below V2.heap.size V2 V2.drew := ⟨rfl, rfl, rfl, Nat.le_refl _, fun _ _ => rfl⟩
                have hT : Three V2 V2.drew n7 (runeInts s) [] := ⟨by simp, List.Pairwise.nil⟩
                clear hV2 hb2 bf bz hn2 hw2 hr2 hn hstV hK hst HST al cw e0 e1 e2 e3 k0 k1 k2 k3 i1 i2 i3 i4 i5 hbel bn0 bq0 g0 hK2
                generalize V.heap.size = NF at *
                refine wp_only ?_
                go_region_held (fun X => (X.cell? ⟨NB, 0, none⟩ = some (.int .i64 (n7 : Nat)) ∧ X.cell? ⟨w1.heap.size, 0, none⟩ = some (.slice (some ⟨g, 0, none⟩) n7 c) ∧ (X.cell? ⟨NF, 0, none⟩ = some (.int .i64 0) ∧ X.cell? ⟨NF, 1, none⟩ = some (.int .i64 (D0 : Nat)) ∧ X.cell? ⟨NF, 2, none⟩ = some (.int .i32 (R0 : Nat)) ∧ X.cell? ⟨NF, 3, none⟩ = some (.int .i64 C0)) ∧ (X.cell? ⟨NF + 1, 0, none⟩ = some (.int .i64 (Pz : Nat)) ∧ X.cell? ⟨NF + 1, 1, none⟩ = some (.int .i64 (Dz : Nat)) ∧ X.cell? ⟨NF + 1, 2, none⟩ = some (.int .i32 (Rz : Nat)) ∧ X.cell? ⟨NF + 1, 3, none⟩ = some (.int .i64 Cz)))) (first | exact unhide HSS _ hbX | exact unhide HS9 _ hbX) (first
                  | (go_at_call 10; with_reducible refine (unhide HFI _).mono ?_; rintro e wA ⟨rfl, hbA⟩; have hT := hT.below hbA; have hbX := hbX.trans (hbA.mono hbX.size))
                  | (go_at_call 11; with_reducible refine (unhide HLA _).mono ?_; rintro e wA ⟨rfl, hbA⟩; have hT := hT.below hbA; have hbX := hbX.trans (hbA.mono hbX.size))
                  | (go_at_call 13; with_reducible refine (unhide HRU _).mono ?_; rintro e wA ⟨vR, rfl, hrA, hbA⟩; have hT := hT.add hbA hbX.size hrA; have hbX := hbX.trans (hbA.mono hbX.size))
                  | (go_at_call 14; with_reducible refine (unhide HRR _).mono ?_; rintro e wA ⟨vR, rfl, hrA, hbA⟩; have hT := hT.add hbA hbX.size hrA; have hbX := hbX.trans (hbA.mono hbX.size))
                  | (go_at_call 12; have hall := hT.all; obtain ⟨r1, r2, r3, d12, d13, d23⟩ := hall; first
                      | (with_reducible refine (fresh_three (unhide HRN) (by omega) hbX.size r1 r2 r3 d12 (apart_symm d13) (apart_symm d23)).mono ?_; rintro e wA ⟨rfl, hbA⟩; have hbX := hbX.trans hbA)
                      | (with_reducible refine (fresh_three (unhide HRN) (by omega) hbX.size r2 r1 r3 (apart_symm d12) (apart_symm d23) (apart_symm d13)).mono ?_; rintro e wA ⟨rfl, hbA⟩; have hbX := hbX.trans hbA)
                      | (with_reducible refine (fresh_three (unhide HRN) (by omega) hbX.size r1 r3 r2 d13 (apart_symm d12) d23).mono ?_; rintro e wA ⟨rfl, hbA⟩; have hbX := hbX.trans hbA)
                      | (with_reducible refine (fresh_three (unhide HRN) (by omega) hbX.size r3 r1 r2 (apart_symm d13) d23 (apart_symm d12)).mono ?_; rintro e wA ⟨rfl, hbA⟩; have hbX := hbX.trans hbA)
                      | (with_reducible refine (fresh_three (unhide HRN) (by omega) hbX.size r2 r3 r1 d23 d12 d13).mono ?_; rintro e wA ⟨rfl, hbA⟩; have hbX := hbX.trans hbA)
                      | (with_reducible refine (fresh_three (unhide HRN) (by omega) hbX.size r3 r2 r1 (apart_symm d23) d13 d12).mono ?_; rintro e wA ⟨rfl, hbA⟩; have hbX := hbX.trans hbA))
                  | (go_at_call 15; with_reducible refine (lives_any _).mono ?_; rintro e wA ⟨rfl, hbA⟩; have hbX := hbX.trans (hbA.mono hbX.size); have hr9 := unhide HRS _ hbX; have c9 := hr9.cell; have f9 := hr9.frozen))
                all_goals
                  refine onlyN_mk ?_
                  have k1 := (KeepsOthers.setCell wA ⟨w.heap.size, 0, none⟩ (.bool true)).same D1 _ (unhide HKK _ hbX) rfl
                  have d8 := hr9.set (.bool true)
                  have hB8 := (hB2.trans (hbX.mono hB2.size)).setCell (p := ⟨w.heap.size, 0, none⟩) (by simp) (.bool true)
                  have t1 : Boxed ((wA.setCell ⟨w.heap.size, 0, none⟩ (.bool true)).putObj D1 (.deferred none)) w.heap.size 4 (.bool true) := (World.putObj_heap_other (by omega)).trans d8
                  have q1 := t1.cell
                  go_wp2
                  refine ⟨by simp, .inl ⟨_, _, rfl, run_takeDeferred k1, ?_⟩⟩
                  exact ⟨.bool true, by simp [results, Try.f3, go_sem, q1], rfl, hB8.trans (belowK_b (w := w) (Nat.le_refl _) _ D1 _ _ (by omega) k1 rfl rfl)⟩
              · exact absurd (unhide HF7) h0
            case stop1 =>
              rintro D1 c' pre V hD hSp hx hK
              refine absurd ?_ hx
              have := List.prefix_iff_eq_take.1 hSp
              rwa [List.length_map] at this
        · by_cases hf0 : 0 ≤ few
          · have hf1 : ¬ few < n7 := fun h => hfew ⟨hf0, h⟩
            have d1 : (decide ((0 : Int) ≤ few)) = true := by simpa using hf0
            have d2 : (decide (few < (n7 : Int))) = false := by simpa using hf1
            go_wp2
            refine wp_cut4 ?G2 (fun X => RSt w X s w1.heap.size n7 c l a6 a7) ?h2 ?k2
            case h2 =>
              go_quiet (fail)
              obtain ⟨gx, gy, gz, gu, _⟩ : ∃ (x : Option Addr) (y : Nat) (z : Option Addr) (u : Nat), True := ⟨none, 0, none, 0, trivial⟩
              refine onlyN_mk ⟨gx, gy, gz, gu, unhide HDN nq, ?_⟩
              rfl
            case k2 =>
              intro _ _ _ _ X11 hst11
              clear HDN hst9
              have cr := hst11.res.cell
              have hws := fun x w => spots_is _ x w rfl
              go_wp2_with (go_at_call 9; refine (spots_in s _).mono ?_; rintro e w' ⟨rfl, rfl⟩)
              obtain ⟨W0, hW0⟩ : ∃ W0, (X11.alloc (Obj.cells #[Value.int IntKind.i64 0] 3)).alloc (Obj.cells #[Value.string s] 9) = W0 := ⟨_, rfl⟩
              have hsz0 : W0.heap.size = X11.heap.size + 2 := by rw [← hW0]; simp
              have g0 : Below X11.heap.size X11 W0 := by rw [← hW0]; go_grown
              have bn0 : W0.heap[X11.heap.size]? = some (.cells #[.int .i64 0] 3) := by rw [← hW0]; exact old_blk (new_blk rfl)
              have bq0 : Boxed W0 (X11.heap.size + 1) 9 (.string s) := by rw [← hW0]; exact new_blk (by simp)
              rw [hW0]
              clear hW0 hws cr
              have HST := hide (fun (V : World) (h : Below X11.heap.size X11 V) => hst11.below h)
              clear hst11
              generalize hNB : X11.heap.size = NB at *
              refine (wpIn_wide (n := 12)).1 ?_
              refine rangeB (by omega) (gf := 27) (lb := #[.pointer (some ⟨NB + 1, 0, none⟩)]) rfl (enters_of Try.func27 (by kernel_rfl) rfl)
                (spots_stops s (by unfold maxLen; omega) _ (NB + 1) (by omega) W0 bq0) kpS_t kpS_b (Below.refl _ _) (fun _ => rfl)
                (fun pre V => Hid (pre.map (·.1) = (places s).take pre.length) ∧ Boxed V NB 3 (.int .i64 (pre.length : Nat)) ∧ Below NB W0 V)
                (fun c pre V => ¬ pre.map (·.1) = (places s).take pre.length)
                ((own_pure _ _).and ((Own.from (boxed_own _ _ _) _).and (ownFrom_below (by omega) (by omega))))
                (fun c => own_pure _ _)
                ⟨rfl, bn0, Below.refl _ _⟩
                (fun x => spotBlk s x.1) (fun _ => rfl)
                ?a2 ?assign2 ?body2 ?done2 ?stop2
              case assign2 =>
                rintro l2 pre x V K ⟨h1, h2, h3⟩ hK
                have hsz6 := h3.size
                have hK2 := hK V.heap.size (V.alloc (spotBlk s x.1)) ((KeepsOthers.alloc _ _).from _) ⟨KeepsWalks.alloc _ _, fun h => h.alloc _⟩ ⟨h1, h2.alloc _, h3.alloc (by omega) _⟩ (heap_alloc_new V _) (by omega)
                gi_wp2
                generalize V.heap.size = B at hK2 ⊢
                exact hK2
              case body2 =>
                rintro l2 pre x Bx V hl ⟨r, hr⟩ ⟨HPR, hn, hbel⟩ hx hBx hlen
                have hstV := unhide HST V (g0.trans hbel)
                obtain ⟨x0, x1, x2, x3⟩ := spot_cells hx
                have cw := hstV.want.cell
                have cn := hn.cell
                have fn := hn.frozen
                have cr := hstV.res.cell
                have fr := hstV.res.frozen
                by_cases hlt : pre.length < n7
                · obtain ⟨y, hy⟩ : ∃ y, (places s)[pre.length]? = some y := ⟨_, List.getElem?_eq_getElem (by rw [unhide HPL]; exact hlt)⟩
                  obtain ⟨g, hgg, y0, y1, y2, y3⟩ := hstV.sp pre.length y hy
                  subst hgg
                  have dl : decide ((n7 : Int) ≤ (pre.length : Int)) = false := by simp; omega
                  have dl2 : decide (n7 ≤ pre.length) = false := by simp; omega
                  by_cases he : x.1 = y
                  · have HSP : Hid ((pre ++ [x]).map (·.1) = (places s).take (pre ++ [x]).length) := by
                      show _ = _
                      rw [List.map_append, HPR.out, List.length_append, List.length_singleton, List.take_add_one, hy, ← he]; rfl
                    rw [← he] at y0 y1 y2 y3
                    have HE := hide he
                    clear he hy HPR
                    gi_wp2
                    refine Reads.wpIn_region_quiet (by kernel_rfl) (by kernel_rfl) (by kernel_rfl) ?_
                    repeat (go_big_quiet_step (fail))
                    refine wpQuiet_nil ?_
                    intro _ hw'
                    obtain ⟨nq, hw''⟩ := hw'
                    subst hw''
                    have hn1 : Boxed (V.drewN nq) NB 3 (.int .i64 (pre.length : Nat)) := hn
                    have hr1 : Boxed (V.drewN nq) w.heap.size 4 (.bool false) := hstV.res
                    have hb1 : Below NB W0 (V.drewN nq) := below_drewN hbel nq
                    have hk1 : KeepsOthers V (V.drewN nq) := ⟨Nat.le_refl _, fun _ _ h _ => h⟩
                    have hs1 : Boxed V (NB + 1) 9 (.string s) → Boxed (V.drewN nq) (NB + 1) 9 (.string s) := fun h => h
                    generalize V.drewN nq = V1 at *
                    clear x0 x1 x2 x3 cw cn fn cr fr
                    have cn := hn1.cell
                    have fn := hn1.frozen
                    have cr := hr1.cell
                    have fr := hr1.frozen
                    gi_wp2
                    refine ⟨(hk1.trans (KeepsOthers.setCell _ _ _)).from _, ⟨(hk1.trans (KeepsOthers.setCell _ _ _)).walks, fun h => (hs1 h).other (by omega) _⟩, unhide HSP, ?_, hb1.setCell (p := ⟨NB, 0, none⟩) (by simp) _⟩
                    rw [List.length_append]
                    exact hn1.set _
                  · have HNO : Hid (¬ (pre ++ [x]).map (·.1) = (places s).take (pre ++ [x]).length) := by
                      intro h
                      rw [List.map_append, HPR.out, List.length_append, List.length_singleton, List.take_add_one, hy] at h
                      have h' := List.append_cancel_left h
                      simp at h'
                      exact he h'
                    have q0 : (((x.1 : Nat) : Int) == ((y : Nat) : Int)) = false := by simp; omega
                    have HE := hide he
                    clear he hy HPR
                    gi_wp2
                    refine Reads.wpIn_region_quiet (by kernel_rfl) (by kernel_rfl) (by kernel_rfl) ?_
                    repeat (go_big_quiet_step (fail))
                    refine wpQuiet_nil ?_
                    intro _ hw'
                    obtain ⟨nq, hw''⟩ := hw'
                    subst hw''
                    have hn1 : Boxed (V.drewN nq) NB 3 (.int .i64 (pre.length : Nat)) := hn
                    have hr1 : Boxed (V.drewN nq) w.heap.size 4 (.bool false) := hstV.res
                    have hb1 : Below NB W0 (V.drewN nq) := below_drewN hbel nq
                    have hk1 : KeepsOthers V (V.drewN nq) := ⟨Nat.le_refl _, fun _ _ h _ => h⟩
                    have hs1 : Boxed V (NB + 1) 9 (.string s) → Boxed (V.drewN nq) (NB + 1) 9 (.string s) := fun h => h
                    generalize V.drewN nq = V1 at *
                    clear x0 x1 x2 x3 cw cn fn cr fr
                    have cn := hn1.cell
                    have fn := hn1.frozen
                    have cr := hr1.cell
                    have fr := hr1.frozen
                    gi_wp2
                    exact ⟨(hk1.trans (KeepsOthers.setCell _ _ _)).from _, unhide HNO⟩
                · have HNO : Hid (¬ (pre ++ [x]).map (·.1) = (places s).take (pre ++ [x]).length) := by
                    intro h
                    have h' := congrArg List.length h
                    rw [List.length_map, List.length_take, unhide HPL, List.length_append, List.length_singleton] at h'
                    omega
                  have dl : decide ((n7 : Int) ≤ (pre.length : Int)) = true := by simp; omega
                  have dl2 : decide (n7 ≤ pre.length) = true := by simp; omega
                  gi_wp2
                  refine Reads.wpIn_region_quiet (by kernel_rfl) (by kernel_rfl) (by kernel_rfl) ?_
                  repeat (go_big_quiet_step (fail))
                  refine wpQuiet_nil ?_
                  intro _ hw'
                  obtain ⟨nq, hw''⟩ := hw'
                  subst hw''
                  have hn1 : Boxed (V.drewN nq) NB 3 (.int .i64 (pre.length : Nat)) := hn
                  have hr1 : Boxed (V.drewN nq) w.heap.size 4 (.bool false) := hstV.res
                  have hb1 : Below NB W0 (V.drewN nq) := below_drewN hbel nq
                  have hk1 : KeepsOthers V (V.drewN nq) := ⟨Nat.le_refl _, fun _ _ h _ => h⟩
                  have hs1 : Boxed V (NB + 1) 9 (.string s) → Boxed (V.drewN nq) (NB + 1) 9 (.string s) := fun h => h
                  generalize V.drewN nq = V1 at *
                  clear x0 x1 x2 x3 cw cn fn cr fr
                  have cn := hn1.cell
                  have fn := hn1.frozen
                  have cr := hr1.cell
                  have fr := hr1.frozen
                  gi_wp2
                  exact ⟨(hk1.trans (KeepsOthers.setCell _ _ _)).from _, unhide HNO⟩
              case done2 =>
                rintro D1 ys V hD hS ⟨HPR, hn, hbel⟩ hK
                have hys : ys.length = n7 := by
                  have h8 := congrArg List.length (show ys.map (·.1) = places s from hS)
                  rw [List.length_map, unhide HPL] at h8; exact h8
                rw [hys] at hn
                clear HPR hS hys
                have hstV := unhide HST V (g0.trans hbel)
                have hb7 : s.size ≤ maxLen := by unfold maxLen; omega
                have hen : ((n7 : Int) == (n7 : Int)) = true := by simp
                by_cases h0 : 0 < n7
                · have h0s : 0 < s.size := by omega
                  obtain ⟨g, hgg, f0, f1, f2, f3⟩ := hstV.sp 0 0 (first_whole s (by rw [unhide HL]; exact h0))
                  obtain ⟨g', hgg', z0, z1, z2, z3⟩ := hstV.sp (n7 - 1) (lastPos s) (by have := last_whole s (by rw [unhide HL]; exact h0); rwa [unhide HL] at this)
                  subst hgg
                  obtain rfl : g = g' := by simpa using hgg'
                  have HFI : Hid (∀ X, Calls Try.prog 10 #[.string s] X fun e w' => e = .returned (spotV (0 : Nat) ((Utf8.decode s 0).2 : Nat) ((Utf8.decode s 0).1 : Nat) (why s 0)) ∧ Below X.heap.size X w') := fun X => first_any s X hb7 h0s
                  have HLA : Hid (∀ X, Calls Try.prog 11 #[.string s] X fun e w' => e = .returned (spotV (lastPos s : Nat) ((Utf8.decode s (lastPos s)).2 : Nat) ((Utf8.decode s (lastPos s)).1 : Nat) (why s (lastPos s))) ∧ Below X.heap.size X w') := fun X => last_any s X hb7 h0s
                  have hgl : g < V.heap.size := by
                    refine Decidable.byContradiction fun hn => ?_
                    have hnn : V.heap[g]? = none := Array.getElem?_eq_none (by omega)
                    simp [World.cell?, hnn] at f0
                  generalize (Utf8.decode s 0).2 = D0 at *
                  generalize (Utf8.decode s 0).1 = R0 at *
                  generalize why s 0 = C0 at *
                  generalize (Utf8.decode s (lastPos s)).2 = Dz at *
                  generalize (Utf8.decode s (lastPos s)).1 = Rz at *
                  generalize why s (lastPos s) = Cz at *
                  generalize lastPos s = Pz at *
                  have al : ∀ o o1, Below V.heap.size V ((V.alloc o).alloc o1) := fun o o1 => ((Below.refl _ _).alloc (Nat.le_refl _) o).alloc (by simp) o1
                  have cw := fun o o1 => ((hstV.want.alloc o).alloc o1).cell
                  have e0 : ∀ o o1, ((V.alloc o).alloc o1).cell? ⟨g, 0, none⟩ = some (.int .i64 (0 : Nat)) := fun o o1 => ((al o o1).cell (p := ⟨g, 0, none⟩) hgl).trans (by simpa using f0)
                  have e1 : ∀ o o1, ((V.alloc o).alloc o1).cell? ⟨g, 1, none⟩ = some (.int .i64 (D0 : Nat)) := fun o o1 => ((al o o1).cell (p := ⟨g, 1, none⟩) hgl).trans (by simpa using f1)
                  have e2 : ∀ o o1, ((V.alloc o).alloc o1).cell? ⟨g, 2, none⟩ = some (.int .i32 (R0 : Nat)) := fun o o1 => ((al o o1).cell (p := ⟨g, 2, none⟩) hgl).trans (by simpa using f2)
                  have e3 : ∀ o o1, ((V.alloc o).alloc o1).cell? ⟨g, 3, none⟩ = some (.int .i64 C0) := fun o o1 => ((al o o1).cell (p := ⟨g, 3, none⟩) hgl).trans (by simpa using f3)
                  obtain ⟨q, hq⟩ : ∃ q, n7 = q + 1 := ⟨n7 - 1, by omega⟩
                  rw [show n7 - 1 = q by omega] at z0 z1 z2 z3
                  have k0 : ∀ o o1, ((V.alloc o).alloc o1).cell? ⟨g, q * 4, none⟩ = some (.int .i64 (Pz : Nat)) := fun o o1 => ((al o o1).cell (p := ⟨g, q * 4, none⟩) hgl).trans z0
                  have k1 : ∀ o o1, ((V.alloc o).alloc o1).cell? ⟨g, q * 4 + 1, none⟩ = some (.int .i64 (Dz : Nat)) := fun o o1 => ((al o o1).cell (p := ⟨g, q * 4 + 1, none⟩) hgl).trans z1
                  have k2 : ∀ o o1, ((V.alloc o).alloc o1).cell? ⟨g, q * 4 + 2, none⟩ = some (.int .i32 (Rz : Nat)) := fun o o1 => ((al o o1).cell (p := ⟨g, q * 4 + 2, none⟩) hgl).trans z2
                  have k3 : ∀ o o1, ((V.alloc o).alloc o1).cell? ⟨g, q * 4 + 3, none⟩ = some (.int .i64 Cz) := fun o o1 => ((al o o1).cell (p := ⟨g, q * 4 + 3, none⟩) hgl).trans z3
                  have i1 : (n7 : Int) - 1 = (q : Int) := by omega
                  have i2 : (q : Int) < (n7 : Int) := by omega
                  have i3 : q < n7 := by omega
                  have i4 : decide ((0 : Int) < (n7 : Int)) = true := by simp; omega
                  have i5 : decide (0 < n7) = true := by simp; omega
                  have HQ := hide hq
                  clear f0 f1 f2 f3 z0 z1 z2 z3 hq hgg'
                  have HRU : Hid (∀ X, Calls Try.prog 13 #[.string s] X fun e w' => ∃ v, e = .returned v ∧ w'.ownsRow X.heap.size 21 1 v n7 (i32s (runeInts s)) ∧ Below X.heap.size X w') := by
                    intro X
                    refine (runes_any s X (by omega)).mono ?_
                    rintro e w' ⟨cp, rfl, hr, hb⟩
                    rw [runeInts_vals, unhide HL] at hr
                    exact ⟨_, by rw [unhide HL], hr, hb⟩
                  have HRR : Hid (∀ X, Calls Try.prog 14 #[.string s] X fun e w' => ∃ v, e = .returned v ∧ w'.ownsRow X.heap.size 21 1 v n7 (i32s (runeInts s)) ∧ Below X.heap.size X w') := by
                    intro X
                    have := refRunes_any s X (by omega)
                    rwa [unhide HL] at this
                  have HRN : Hid ((runeInts s).length = n7) := (runeInts_len s).trans (unhide HL)
                  gi_wp2
                  go_wp2
                  obtain ⟨V2, hV2⟩ : ∃ V2, (V.alloc (Obj.cells #[Value.int IntKind.i64 0, Value.int IntKind.i64 (D0 : Nat), Value.int IntKind.i32 (R0 : Nat), Value.int IntKind.i64 C0] 27)).alloc (Obj.cells #[Value.int IntKind.i64 (Pz : Nat), Value.int IntKind.i64 (Dz : Nat), Value.int IntKind.i32 (Rz : Nat), Value.int IntKind.i64 Cz] 27) = V2 := ⟨_, rfl⟩
                  have hb2 : Below V.heap.size V V2 := by rw [← hV2]; exact al _ _
                  have bf : V2.heap[V.heap.size]? = some (.cells #[Value.int IntKind.i64 0, Value.int IntKind.i64 (D0 : Nat), Value.int IntKind.i32 (R0 : Nat), Value.int IntKind.i64 C0] 27) := by rw [← hV2]; exact old_blk (new_blk rfl)
                  have bz : V2.heap[V.heap.size + 1]? = some (.cells #[Value.int IntKind.i64 (Pz : Nat), Value.int IntKind.i64 (Dz : Nat), Value.int IntKind.i32 (Rz : Nat), Value.int IntKind.i64 Cz] 27) := by rw [← hV2]; exact new_blk (by simp)
                  have hn2 := boxed_below hn hb2
                  have hw2 := boxed_below hstV.want hb2
                  have hr2 := boxed_below hstV.res hb2
                  have hK2 : V2.heap[D1]? = some (Obj.deferred (some [])) := (hb2.block D1 (Array.getElem?_eq_some_iff.1 hK).1).trans hK
                  have hB2 : Below w.heap.size w V2 := hstV.bel.trans (hb2.mono hstV.bel.size)
                  have hlr : w.heap.size < NB := by have := (unhide HST X11 (Below.refl _ _)).res.lt; omega
                  have hlv : NB < V.heap.size := hn.lt
                  have hlw : w1.heap.size ≠ w.heap.size := fun e => by
                    have h1 : V.heap[w1.heap.size]? = _ := hstV.want
                    have h2 : V.heap[w.heap.size]? = _ := hstV.res
                    rw [e, h2] at h1
                    cases h1
                  rw [hV2]
                  have HSS : Hid (∀ X, Below V2.heap.size V2 X → (X.cell? ⟨NB, 0, none⟩ = some (.int .i64 (n7 : Nat)) ∧ X.cell? ⟨w1.heap.size, 0, none⟩ = some (.slice (some ⟨g, 0, none⟩) n7 c) ∧ (X.cell? ⟨V.heap.size, 0, none⟩ = some (.int .i64 0) ∧ X.cell? ⟨V.heap.size, 1, none⟩ = some (.int .i64 (D0 : Nat)) ∧ X.cell? ⟨V.heap.size, 2, none⟩ = some (.int .i32 (R0 : Nat)) ∧ X.cell? ⟨V.heap.size, 3, none⟩ = some (.int .i64 C0)) ∧ (X.cell? ⟨V.heap.size + 1, 0, none⟩ = some (.int .i64 (Pz : Nat)) ∧ X.cell? ⟨V.heap.size + 1, 1, none⟩ = some (.int .i64 (Dz : Nat)) ∧ X.cell? ⟨V.heap.size + 1, 2, none⟩ = some (.int .i32 (Rz : Nat)) ∧ X.cell? ⟨V.heap.size + 1, 3, none⟩ = some (.int .i64 Cz)))) := by
                    intro X hX
                    exact ⟨(boxed_below hn2 hX).cell, (boxed_below hw2 hX).cell, cell_four _ _ _ _ _ _ _ ((hX.block _ (Array.getElem?_eq_some_iff.1 bf).1).trans bf), cell_four _ _ _ _ _ _ _ ((hX.block _ (Array.getElem?_eq_some_iff.1 bz).1).trans bz)⟩
                  have HS9 : Hid (∀ X, Below V2.heap.size V2 X → ((X.setCell ⟨w.heap.size, 0, none⟩ (.bool true)).cell? ⟨NB, 0, none⟩ = some (.int .i64 (n7 : Nat)) ∧ (X.setCell ⟨w.heap.size, 0, none⟩ (.bool true)).cell? ⟨w1.heap.size, 0, none⟩ = some (.slice (some ⟨g, 0, none⟩) n7 c) ∧ ((X.setCell ⟨w.heap.size, 0, none⟩ (.bool true)).cell? ⟨V.heap.size, 0, none⟩ = some (.int .i64 0) ∧ (X.setCell ⟨w.heap.size, 0, none⟩ (.bool true)).cell? ⟨V.heap.size, 1, none⟩ = some (.int .i64 (D0 : Nat)) ∧ (X.setCell ⟨w.heap.size, 0, none⟩ (.bool true)).cell? ⟨V.heap.size, 2, none⟩ = some (.int .i32 (R0 : Nat)) ∧ (X.setCell ⟨w.heap.size, 0, none⟩ (.bool true)).cell? ⟨V.heap.size, 3, none⟩ = some (.int .i64 C0)) ∧ ((X.setCell ⟨w.heap.size, 0, none⟩ (.bool true)).cell? ⟨V.heap.size + 1, 0, none⟩ = some (.int .i64 (Pz : Nat)) ∧ (X.setCell ⟨w.heap.size, 0, none⟩ (.bool true)).cell? ⟨V.heap.size + 1, 1, none⟩ = some (.int .i64 (Dz : Nat)) ∧ (X.setCell ⟨w.heap.size, 0, none⟩ (.bool true)).cell? ⟨V.heap.size + 1, 2, none⟩ = some (.int .i32 (Rz : Nat)) ∧ (X.setCell ⟨w.heap.size, 0, none⟩ (.bool true)).cell? ⟨V.heap.size + 1, 3, none⟩ = some (.int .i64 Cz)))) := by
                    intro X hX
                    exact ⟨((boxed_below hn2 hX).other (by omega) _).cell, ((boxed_below hw2 hX).other (by omega) _).cell, cell_four _ _ _ _ _ _ _ ((Below.heap_setCell _ _ _ _ (by show _ ≠ w.heap.size; omega)).trans ((hX.block _ (Array.getElem?_eq_some_iff.1 bf).1).trans bf)), cell_four _ _ _ _ _ _ _ ((Below.heap_setCell _ _ _ _ (by show _ ≠ w.heap.size; omega)).trans ((hX.block _ (Array.getElem?_eq_some_iff.1 bz).1).trans bz))⟩
                  have HRS : Hid (∀ X, Below V2.heap.size V2 X → Boxed X w.heap.size 4 (.bool false)) := fun X hX => boxed_below hr2 hX
                  have HKK : Hid (∀ X, Below V2.heap.size V2 X → X.heap[D1]? = some (Obj.deferred (some []))) := fun X hX => (hX.block D1 (Array.getElem?_eq_some_iff.1 hK2).1).trans hK2
                  have hbX : Below V2.heap.size V2 V2.drew := ⟨rfl, rfl, rfl, Nat.le_refl _, fun _ _ => rfl⟩
                  have hT : Three V2 V2.drew n7 (runeInts s) [] := ⟨by simp, List.Pairwise.nil⟩
                  clear hV2 hb2 bf bz hn2 hw2 hr2 hn hstV hK hst HST al cw e0 e1 e2 e3 k0 k1 k2 k3 i1 i2 i3 i4 i5 hbel bn0 bq0 g0 hK2
                  generalize V.heap.size = NF at *
                  refine wp_only ?_
                  go_region_held (fun X => (X.cell? ⟨NB, 0, none⟩ = some (.int .i64 (n7 : Nat)) ∧ X.cell? ⟨w1.heap.size, 0, none⟩ = some (.slice (some ⟨g, 0, none⟩) n7 c) ∧ (X.cell? ⟨NF, 0, none⟩ = some (.int .i64 0) ∧ X.cell? ⟨NF, 1, none⟩ = some (.int .i64 (D0 : Nat)) ∧ X.cell? ⟨NF, 2, none⟩ = some (.int .i32 (R0 : Nat)) ∧ X.cell? ⟨NF, 3, none⟩ = some (.int .i64 C0)) ∧ (X.cell? ⟨NF + 1, 0, none⟩ = some (.int .i64 (Pz : Nat)) ∧ X.cell? ⟨NF + 1, 1, none⟩ = some (.int .i64 (Dz : Nat)) ∧ X.cell? ⟨NF + 1, 2, none⟩ = some (.int .i32 (Rz : Nat)) ∧ X.cell? ⟨NF + 1, 3, none⟩ = some (.int .i64 Cz)))) (first | exact unhide HSS _ hbX | exact unhide HS9 _ hbX) (first
                    | (go_at_call 10; with_reducible refine (unhide HFI _).mono ?_; rintro e wA ⟨rfl, hbA⟩; have hT := hT.below hbA; have hbX := hbX.trans (hbA.mono hbX.size))
                    | (go_at_call 11; with_reducible refine (unhide HLA _).mono ?_; rintro e wA ⟨rfl, hbA⟩; have hT := hT.below hbA; have hbX := hbX.trans (hbA.mono hbX.size))
                    | (go_at_call 13; with_reducible refine (unhide HRU _).mono ?_; rintro e wA ⟨vR, rfl, hrA, hbA⟩; have hT := hT.add hbA hbX.size hrA; have hbX := hbX.trans (hbA.mono hbX.size))
                    | (go_at_call 14; with_reducible refine (unhide HRR _).mono ?_; rintro e wA ⟨vR, rfl, hrA, hbA⟩; have hT := hT.add hbA hbX.size hrA; have hbX := hbX.trans (hbA.mono hbX.size))
                    | (go_at_call 12; have hall := hT.all; obtain ⟨r1, r2, r3, d12, d13, d23⟩ := hall; first
                        | (with_reducible refine (fresh_three (unhide HRN) (by omega) hbX.size r1 r2 r3 d12 (apart_symm d13) (apart_symm d23)).mono ?_; rintro e wA ⟨rfl, hbA⟩; have hbX := hbX.trans hbA)
                        | (with_reducible refine (fresh_three (unhide HRN) (by omega) hbX.size r2 r1 r3 (apart_symm d12) (apart_symm d23) (apart_symm d13)).mono ?_; rintro e wA ⟨rfl, hbA⟩; have hbX := hbX.trans hbA)
                        | (with_reducible refine (fresh_three (unhide HRN) (by omega) hbX.size r1 r3 r2 d13 (apart_symm d12) d23).mono ?_; rintro e wA ⟨rfl, hbA⟩; have hbX := hbX.trans hbA)
                        | (with_reducible refine (fresh_three (unhide HRN) (by omega) hbX.size r3 r1 r2 (apart_symm d13) d23 (apart_symm d12)).mono ?_; rintro e wA ⟨rfl, hbA⟩; have hbX := hbX.trans hbA)
                        | (with_reducible refine (fresh_three (unhide HRN) (by omega) hbX.size r2 r3 r1 d23 d12 d13).mono ?_; rintro e wA ⟨rfl, hbA⟩; have hbX := hbX.trans hbA)
                        | (with_reducible refine (fresh_three (unhide HRN) (by omega) hbX.size r3 r2 r1 (apart_symm d23) d13 d12).mono ?_; rintro e wA ⟨rfl, hbA⟩; have hbX := hbX.trans hbA))
                    | (go_at_call 15; with_reducible refine (lives_any _).mono ?_; rintro e wA ⟨rfl, hbA⟩; have hbX := hbX.trans (hbA.mono hbX.size); have hr9 := unhide HRS _ hbX; have c9 := hr9.cell; have f9 := hr9.frozen))
                  all_goals
                    refine onlyN_mk ?_
                    have k1 := (KeepsOthers.setCell wA ⟨w.heap.size, 0, none⟩ (.bool true)).same D1 _ (unhide HKK _ hbX) rfl
                    have d8 := hr9.set (.bool true)
                    have hB8 := (hB2.trans (hbX.mono hB2.size)).setCell (p := ⟨w.heap.size, 0, none⟩) (by simp) (.bool true)
                    have t1 : Boxed ((wA.setCell ⟨w.heap.size, 0, none⟩ (.bool true)).putObj D1 (.deferred none)) w.heap.size 4 (.bool true) := (World.putObj_heap_other (by omega)).trans d8
                    have q1 := t1.cell
                    go_wp2
                    refine ⟨by simp, .inl ⟨_, _, rfl, run_takeDeferred k1, ?_⟩⟩
                    exact ⟨.bool true, by simp [results, Try.f3, go_sem, q1], rfl, hB8.trans (belowK_b (w := w) (Nat.le_refl _) _ D1 _ _ (by omega) k1 rfl rfl)⟩
                · have hse : s.size = 0 := by
                    refine Decidable.byContradiction fun hn => ?_
                    have h1 := unhide HL
                    rw [chars_step s 0 (by omega)] at h1
                    simp at h1
                    omega
                  have HFI : Hid (∀ X, Calls Try.prog 10 #[.string s] X fun e w' => e = .returned (spotV 0 0 0 0) ∧ Below X.heap.size X w') := fun X => first_nil s X hse
                  have HLA : Hid (∀ X, Calls Try.prog 11 #[.string s] X fun e w' => e = .returned (spotV 0 0 0 0) ∧ Below X.heap.size X w') := fun X => last_nil s X hse
                  have al : ∀ o o1, Below V.heap.size V ((V.alloc o).alloc o1) := fun o o1 => ((Below.refl _ _).alloc (Nat.le_refl _) o).alloc (by simp) o1
                  have cw := fun o o1 => ((hstV.want.alloc o).alloc o1).cell
                  have i4 : decide ((0 : Int) < (n7 : Int)) = false := by simp; omega
                  have i5 : decide (0 < n7) = false := by simp; omega
                  have HSE := hide hse
                  clear hse
                  have HRU : Hid (∀ X, Calls Try.prog 13 #[.string s] X fun e w' => ∃ v, e = .returned v ∧ w'.ownsRow X.heap.size 21 1 v n7 (i32s (runeInts s)) ∧ Below X.heap.size X w') := by
                    intro X
                    refine (runes_any s X (by omega)).mono ?_
                    rintro e w' ⟨cp, rfl, hr, hb⟩
                    rw [runeInts_vals, unhide HL] at hr
                    exact ⟨_, by rw [unhide HL], hr, hb⟩
                  have HRR : Hid (∀ X, Calls Try.prog 14 #[.string s] X fun e w' => ∃ v, e = .returned v ∧ w'.ownsRow X.heap.size 21 1 v n7 (i32s (runeInts s)) ∧ Below X.heap.size X w') := by
                    intro X
                    have := refRunes_any s X (by omega)
                    rwa [unhide HL] at this
                  have HRN : Hid ((runeInts s).length = n7) := (runeInts_len s).trans (unhide HL)
                  gi_wp2
                  go_wp2
                  obtain ⟨V2, hV2⟩ : ∃ V2, (V.alloc (Obj.cells #[Value.int IntKind.i64 0, Value.int IntKind.i64 0, Value.int IntKind.i32 0, Value.int IntKind.i64 0] 27)).alloc (Obj.cells #[Value.int IntKind.i64 0, Value.int IntKind.i64 0, Value.int IntKind.i32 0, Value.int IntKind.i64 0] 27) = V2 := ⟨_, rfl⟩
                  have hb2 : Below V.heap.size V V2 := by rw [← hV2]; exact al _ _
                  have bf : V2.heap[V.heap.size]? = some (.cells #[Value.int IntKind.i64 0, Value.int IntKind.i64 0, Value.int IntKind.i32 0, Value.int IntKind.i64 0] 27) := by rw [← hV2]; exact old_blk (new_blk rfl)
                  have bz : V2.heap[V.heap.size + 1]? = some (.cells #[Value.int IntKind.i64 0, Value.int IntKind.i64 0, Value.int IntKind.i32 0, Value.int IntKind.i64 0] 27) := by rw [← hV2]; exact new_blk (by simp)
                  have hn2 := boxed_below hn hb2
                  have hw2 := boxed_below hstV.want hb2
                  have hr2 := boxed_below hstV.res hb2
                  have hK2 : V2.heap[D1]? = some (Obj.deferred (some [])) := (hb2.block D1 (Array.getElem?_eq_some_iff.1 hK).1).trans hK
                  have hB2 : Below w.heap.size w V2 := hstV.bel.trans (hb2.mono hstV.bel.size)
                  have hlr : w.heap.size < NB := by have := (unhide HST X11 (Below.refl _ _)).res.lt; omega
                  have hlv : NB < V.heap.size := hn.lt
                  have hlw : w1.heap.size ≠ w.heap.size := fun e => by
                    have h1 : V.heap[w1.heap.size]? = _ := hstV.want
                    have h2 : V.heap[w.heap.size]? = _ := hstV.res
                    rw [e, h2] at h1
                    cases h1
                  rw [hV2]
                  have HSS : Hid (∀ X, Below V2.heap.size V2 X → (X.cell? ⟨NB, 0, none⟩ = some (.int .i64 (n7 : Nat)) ∧ X.cell? ⟨w1.heap.size, 0, none⟩ = some (.slice l n7 c) ∧ (X.cell? ⟨V.heap.size, 0, none⟩ = some (.int .i64 0) ∧ X.cell? ⟨V.heap.size, 1, none⟩ = some (.int .i64 0) ∧ X.cell? ⟨V.heap.size, 2, none⟩ = some (.int .i32 0) ∧ X.cell? ⟨V.heap.size, 3, none⟩ = some (.int .i64 0)) ∧ (X.cell? ⟨V.heap.size + 1, 0, none⟩ = some (.int .i64 0) ∧ X.cell? ⟨V.heap.size + 1, 1, none⟩ = some (.int .i64 0) ∧ X.cell? ⟨V.heap.size + 1, 2, none⟩ = some (.int .i32 0) ∧ X.cell? ⟨V.heap.size + 1, 3, none⟩ = some (.int .i64 0)))) := by
                    intro X hX
                    exact ⟨(boxed_below hn2 hX).cell, (boxed_below hw2 hX).cell, cell_four _ _ _ _ _ _ _ ((hX.block _ (Array.getElem?_eq_some_iff.1 bf).1).trans bf), cell_four _ _ _ _ _ _ _ ((hX.block _ (Array.getElem?_eq_some_iff.1 bz).1).trans bz)⟩
                  have HS9 : Hid (∀ X, Below V2.heap.size V2 X → ((X.setCell ⟨w.heap.size, 0, none⟩ (.bool true)).cell? ⟨NB, 0, none⟩ = some (.int .i64 (n7 : Nat)) ∧ (X.setCell ⟨w.heap.size, 0, none⟩ (.bool true)).cell? ⟨w1.heap.size, 0, none⟩ = some (.slice l n7 c) ∧ ((X.setCell ⟨w.heap.size, 0, none⟩ (.bool true)).cell? ⟨V.heap.size, 0, none⟩ = some (.int .i64 0) ∧ (X.setCell ⟨w.heap.size, 0, none⟩ (.bool true)).cell? ⟨V.heap.size, 1, none⟩ = some (.int .i64 0) ∧ (X.setCell ⟨w.heap.size, 0, none⟩ (.bool true)).cell? ⟨V.heap.size, 2, none⟩ = some (.int .i32 0) ∧ (X.setCell ⟨w.heap.size, 0, none⟩ (.bool true)).cell? ⟨V.heap.size, 3, none⟩ = some (.int .i64 0)) ∧ ((X.setCell ⟨w.heap.size, 0, none⟩ (.bool true)).cell? ⟨V.heap.size + 1, 0, none⟩ = some (.int .i64 0) ∧ (X.setCell ⟨w.heap.size, 0, none⟩ (.bool true)).cell? ⟨V.heap.size + 1, 1, none⟩ = some (.int .i64 0) ∧ (X.setCell ⟨w.heap.size, 0, none⟩ (.bool true)).cell? ⟨V.heap.size + 1, 2, none⟩ = some (.int .i32 0) ∧ (X.setCell ⟨w.heap.size, 0, none⟩ (.bool true)).cell? ⟨V.heap.size + 1, 3, none⟩ = some (.int .i64 0)))) := by
                    intro X hX
                    exact ⟨((boxed_below hn2 hX).other (by omega) _).cell, ((boxed_below hw2 hX).other (by omega) _).cell, cell_four _ _ _ _ _ _ _ ((Below.heap_setCell _ _ _ _ (by show _ ≠ w.heap.size; omega)).trans ((hX.block _ (Array.getElem?_eq_some_iff.1 bf).1).trans bf)), cell_four _ _ _ _ _ _ _ ((Below.heap_setCell _ _ _ _ (by show _ ≠ w.heap.size; omega)).trans ((hX.block _ (Array.getElem?_eq_some_iff.1 bz).1).trans bz))⟩
                  have HRS : Hid (∀ X, Below V2.heap.size V2 X → Boxed X w.heap.size 4 (.bool false)) := fun X hX => boxed_below hr2 hX
                  have HKK : Hid (∀ X, Below V2.heap.size V2 X → X.heap[D1]? = some (Obj.deferred (some []))) := fun X hX => (hX.block D1 (Array.getElem?_eq_some_iff.1 hK2).1).trans hK2
                  have hbX : Below V2.heap.size V2 V2.drew := ⟨rfl, rfl, rfl, Nat.le_refl _, fun _ _ => rfl⟩
                  have hT : Three V2 V2.drew n7 (runeInts s) [] := ⟨by simp, List.Pairwise.nil⟩
                  clear hV2 hb2 bf bz hn2 hw2 hr2 hn hstV hK hst HST al cw i4 i5 hbel bn0 bq0 g0 hK2
                  generalize V.heap.size = NF at *
                  refine wp_only ?_
                  go_region_held (fun X => (X.cell? ⟨NB, 0, none⟩ = some (.int .i64 (n7 : Nat)) ∧ X.cell? ⟨w1.heap.size, 0, none⟩ = some (.slice l n7 c) ∧ (X.cell? ⟨NF, 0, none⟩ = some (.int .i64 0) ∧ X.cell? ⟨NF, 1, none⟩ = some (.int .i64 0) ∧ X.cell? ⟨NF, 2, none⟩ = some (.int .i32 0) ∧ X.cell? ⟨NF, 3, none⟩ = some (.int .i64 0)) ∧ (X.cell? ⟨NF + 1, 0, none⟩ = some (.int .i64 0) ∧ X.cell? ⟨NF + 1, 1, none⟩ = some (.int .i64 0) ∧ X.cell? ⟨NF + 1, 2, none⟩ = some (.int .i32 0) ∧ X.cell? ⟨NF + 1, 3, none⟩ = some (.int .i64 0)))) (first | exact unhide HSS _ hbX | exact unhide HS9 _ hbX) (first
                    | (go_at_call 10; with_reducible refine (unhide HFI _).mono ?_; rintro e wA ⟨rfl, hbA⟩; have hT := hT.below hbA; have hbX := hbX.trans (hbA.mono hbX.size))
                    | (go_at_call 11; with_reducible refine (unhide HLA _).mono ?_; rintro e wA ⟨rfl, hbA⟩; have hT := hT.below hbA; have hbX := hbX.trans (hbA.mono hbX.size))
                    | (go_at_call 13; with_reducible refine (unhide HRU _).mono ?_; rintro e wA ⟨vR, rfl, hrA, hbA⟩; have hT := hT.add hbA hbX.size hrA; have hbX := hbX.trans (hbA.mono hbX.size))
                    | (go_at_call 14; with_reducible refine (unhide HRR _).mono ?_; rintro e wA ⟨vR, rfl, hrA, hbA⟩; have hT := hT.add hbA hbX.size hrA; have hbX := hbX.trans (hbA.mono hbX.size))
                    | (go_at_call 12; have hall := hT.all; obtain ⟨r1, r2, r3, d12, d13, d23⟩ := hall; first
                        | (with_reducible refine (fresh_three (unhide HRN) (by omega) hbX.size r1 r2 r3 d12 (apart_symm d13) (apart_symm d23)).mono ?_; rintro e wA ⟨rfl, hbA⟩; have hbX := hbX.trans hbA)
                        | (with_reducible refine (fresh_three (unhide HRN) (by omega) hbX.size r2 r1 r3 (apart_symm d12) (apart_symm d23) (apart_symm d13)).mono ?_; rintro e wA ⟨rfl, hbA⟩; have hbX := hbX.trans hbA)
                        | (with_reducible refine (fresh_three (unhide HRN) (by omega) hbX.size r1 r3 r2 d13 (apart_symm d12) d23).mono ?_; rintro e wA ⟨rfl, hbA⟩; have hbX := hbX.trans hbA)
                        | (with_reducible refine (fresh_three (unhide HRN) (by omega) hbX.size r3 r1 r2 (apart_symm d13) d23 (apart_symm d12)).mono ?_; rintro e wA ⟨rfl, hbA⟩; have hbX := hbX.trans hbA)
                        | (with_reducible refine (fresh_three (unhide HRN) (by omega) hbX.size r2 r3 r1 d23 d12 d13).mono ?_; rintro e wA ⟨rfl, hbA⟩; have hbX := hbX.trans hbA)
                        | (with_reducible refine (fresh_three (unhide HRN) (by omega) hbX.size r3 r2 r1 (apart_symm d23) d13 d12).mono ?_; rintro e wA ⟨rfl, hbA⟩; have hbX := hbX.trans hbA))
                    | (go_at_call 15; with_reducible refine (lives_any _).mono ?_; rintro e wA ⟨rfl, hbA⟩; have hbX := hbX.trans (hbA.mono hbX.size); have hr9 := unhide HRS _ hbX; have c9 := hr9.cell; have f9 := hr9.frozen))
                  all_goals
                    refine onlyN_mk ?_
                    have k1 := (KeepsOthers.setCell wA ⟨w.heap.size, 0, none⟩ (.bool true)).same D1 _ (unhide HKK _ hbX) rfl
                    have d8 := hr9.set (.bool true)
                    have hB8 := (hB2.trans (hbX.mono hB2.size)).setCell (p := ⟨w.heap.size, 0, none⟩) (by simp) (.bool true)
                    have t1 : Boxed ((wA.setCell ⟨w.heap.size, 0, none⟩ (.bool true)).putObj D1 (.deferred none)) w.heap.size 4 (.bool true) := (World.putObj_heap_other (by omega)).trans d8
                    have q1 := t1.cell
                    go_wp2
                    refine ⟨by simp, .inl ⟨_, _, rfl, run_takeDeferred k1, ?_⟩⟩
                    exact ⟨.bool true, by simp [results, Try.f3, go_sem, q1], rfl, hB8.trans (belowK_b (w := w) (Nat.le_refl _) _ D1 _ _ (by omega) k1 rfl rfl)⟩
              case stop2 =>
                rintro D1 c' pre V hD hSp hx hK
                refine absurd ?_ hx
                have := List.prefix_iff_eq_take.1 hSp
                rwa [List.length_map] at this
          · have d1 : (decide ((0 : Int) ≤ few)) = false := by simpa using hf0
            go_wp2
            refine wp_cut4 ?G3 (fun X => RSt w X s w1.heap.size n7 c l a6 a7) ?h3 ?k3
            case h3 =>
              go_quiet (fail)
              obtain ⟨gx, gy, gz, gu, _⟩ : ∃ (x : Option Addr) (y : Nat) (z : Option Addr) (u : Nat), True := ⟨none, 0, none, 0, trivial⟩
              refine onlyN_mk ⟨gx, gy, gz, gu, unhide HDN nq, ?_⟩
              rfl
            case k3 =>
              intro _ _ _ _ X11 hst11
              clear HDN hst9
              have cr := hst11.res.cell
              have hws := fun x w => spots_is _ x w rfl
              go_wp2_with (go_at_call 9; refine (spots_in s _).mono ?_; rintro e w' ⟨rfl, rfl⟩)
              obtain ⟨W0, hW0⟩ : ∃ W0, (X11.alloc (Obj.cells #[Value.int IntKind.i64 0] 3)).alloc (Obj.cells #[Value.string s] 9) = W0 := ⟨_, rfl⟩
              have hsz0 : W0.heap.size = X11.heap.size + 2 := by rw [← hW0]; simp
              have g0 : Below X11.heap.size X11 W0 := by rw [← hW0]; go_grown
              have bn0 : W0.heap[X11.heap.size]? = some (.cells #[.int .i64 0] 3) := by rw [← hW0]; exact old_blk (new_blk rfl)
              have bq0 : Boxed W0 (X11.heap.size + 1) 9 (.string s) := by rw [← hW0]; exact new_blk (by simp)
              rw [hW0]
              clear hW0 hws cr
              have HST := hide (fun (V : World) (h : Below X11.heap.size X11 V) => hst11.below h)
              clear hst11
              generalize hNB : X11.heap.size = NB at *
              refine (wpIn_wide (n := 12)).1 ?_
              refine rangeB (by omega) (gf := 27) (lb := #[.pointer (some ⟨NB + 1, 0, none⟩)]) rfl (enters_of Try.func27 (by kernel_rfl) rfl)
                (spots_stops s (by unfold maxLen; omega) _ (NB + 1) (by omega) W0 bq0) kpS_t kpS_b (Below.refl _ _) (fun _ => rfl)
                (fun pre V => Hid (pre.map (·.1) = (places s).take pre.length) ∧ Boxed V NB 3 (.int .i64 (pre.length : Nat)) ∧ Below NB W0 V)
                (fun c pre V => ¬ pre.map (·.1) = (places s).take pre.length)
                ((own_pure _ _).and ((Own.from (boxed_own _ _ _) _).and (ownFrom_below (by omega) (by omega))))
                (fun c => own_pure _ _)
                ⟨rfl, bn0, Below.refl _ _⟩
                (fun x => spotBlk s x.1) (fun _ => rfl)
                ?a3 ?assign3 ?body3 ?done3 ?stop3
              case assign3 =>
                rintro l2 pre x V K ⟨h1, h2, h3⟩ hK
                have hsz6 := h3.size
                have hK2 := hK V.heap.size (V.alloc (spotBlk s x.1)) ((KeepsOthers.alloc _ _).from _) ⟨KeepsWalks.alloc _ _, fun h => h.alloc _⟩ ⟨h1, h2.alloc _, h3.alloc (by omega) _⟩ (heap_alloc_new V _) (by omega)
                gi_wp2
                generalize V.heap.size = B at hK2 ⊢
                exact hK2
              case body3 =>
                rintro l2 pre x Bx V hl ⟨r, hr⟩ ⟨HPR, hn, hbel⟩ hx hBx hlen
                have hstV := unhide HST V (g0.trans hbel)
                obtain ⟨x0, x1, x2, x3⟩ := spot_cells hx
                have cw := hstV.want.cell
                have cn := hn.cell
                have fn := hn.frozen
                have cr := hstV.res.cell
                have fr := hstV.res.frozen
                by_cases hlt : pre.length < n7
                · obtain ⟨y, hy⟩ : ∃ y, (places s)[pre.length]? = some y := ⟨_, List.getElem?_eq_getElem (by rw [unhide HPL]; exact hlt)⟩
                  obtain ⟨g, hgg, y0, y1, y2, y3⟩ := hstV.sp pre.length y hy
                  subst hgg
                  have dl : decide ((n7 : Int) ≤ (pre.length : Int)) = false := by simp; omega
                  have dl2 : decide (n7 ≤ pre.length) = false := by simp; omega
                  by_cases he : x.1 = y
                  · have HSP : Hid ((pre ++ [x]).map (·.1) = (places s).take (pre ++ [x]).length) := by
                      show _ = _
                      rw [List.map_append, HPR.out, List.length_append, List.length_singleton, List.take_add_one, hy, ← he]; rfl
                    rw [← he] at y0 y1 y2 y3
                    have HE := hide he
                    clear he hy HPR
                    gi_wp2
                    refine Reads.wpIn_region_quiet (by kernel_rfl) (by kernel_rfl) (by kernel_rfl) ?_
                    repeat (go_big_quiet_step (fail))
                    refine wpQuiet_nil ?_
                    intro _ hw'
                    obtain ⟨nq, hw''⟩ := hw'
                    subst hw''
                    have hn1 : Boxed (V.drewN nq) NB 3 (.int .i64 (pre.length : Nat)) := hn
                    have hr1 : Boxed (V.drewN nq) w.heap.size 4 (.bool false) := hstV.res
                    have hb1 : Below NB W0 (V.drewN nq) := below_drewN hbel nq
                    have hk1 : KeepsOthers V (V.drewN nq) := ⟨Nat.le_refl _, fun _ _ h _ => h⟩
                    have hs1 : Boxed V (NB + 1) 9 (.string s) → Boxed (V.drewN nq) (NB + 1) 9 (.string s) := fun h => h
                    generalize V.drewN nq = V1 at *
                    clear x0 x1 x2 x3 cw cn fn cr fr
                    have cn := hn1.cell
                    have fn := hn1.frozen
                    have cr := hr1.cell
                    have fr := hr1.frozen
                    gi_wp2
                    refine ⟨(hk1.trans (KeepsOthers.setCell _ _ _)).from _, ⟨(hk1.trans (KeepsOthers.setCell _ _ _)).walks, fun h => (hs1 h).other (by omega) _⟩, unhide HSP, ?_, hb1.setCell (p := ⟨NB, 0, none⟩) (by simp) _⟩
                    rw [List.length_append]
                    exact hn1.set _
                  · have HNO : Hid (¬ (pre ++ [x]).map (·.1) = (places s).take (pre ++ [x]).length) := by
                      intro h
                      rw [List.map_append, HPR.out, List.length_append, List.length_singleton, List.take_add_one, hy] at h
                      have h' := List.append_cancel_left h
                      simp at h'
                      exact he h'
                    have q0 : (((x.1 : Nat) : Int) == ((y : Nat) : Int)) = false := by simp; omega
                    have HE := hide he
                    clear he hy HPR
                    gi_wp2
                    refine Reads.wpIn_region_quiet (by kernel_rfl) (by kernel_rfl) (by kernel_rfl) ?_
                    repeat (go_big_quiet_step (fail))
                    refine wpQuiet_nil ?_
                    intro _ hw'
                    obtain ⟨nq, hw''⟩ := hw'
                    subst hw''
                    have hn1 : Boxed (V.drewN nq) NB 3 (.int .i64 (pre.length : Nat)) := hn
                    have hr1 : Boxed (V.drewN nq) w.heap.size 4 (.bool false) := hstV.res
                    have hb1 : Below NB W0 (V.drewN nq) := below_drewN hbel nq
                    have hk1 : KeepsOthers V (V.drewN nq) := ⟨Nat.le_refl _, fun _ _ h _ => h⟩
                    have hs1 : Boxed V (NB + 1) 9 (.string s) → Boxed (V.drewN nq) (NB + 1) 9 (.string s) := fun h => h
                    generalize V.drewN nq = V1 at *
                    clear x0 x1 x2 x3 cw cn fn cr fr
                    have cn := hn1.cell
                    have fn := hn1.frozen
                    have cr := hr1.cell
                    have fr := hr1.frozen
                    gi_wp2
                    exact ⟨(hk1.trans (KeepsOthers.setCell _ _ _)).from _, unhide HNO⟩
                · have HNO : Hid (¬ (pre ++ [x]).map (·.1) = (places s).take (pre ++ [x]).length) := by
                    intro h
                    have h' := congrArg List.length h
                    rw [List.length_map, List.length_take, unhide HPL, List.length_append, List.length_singleton] at h'
                    omega
                  have dl : decide ((n7 : Int) ≤ (pre.length : Int)) = true := by simp; omega
                  have dl2 : decide (n7 ≤ pre.length) = true := by simp; omega
                  gi_wp2
                  refine Reads.wpIn_region_quiet (by kernel_rfl) (by kernel_rfl) (by kernel_rfl) ?_
                  repeat (go_big_quiet_step (fail))
                  refine wpQuiet_nil ?_
                  intro _ hw'
                  obtain ⟨nq, hw''⟩ := hw'
                  subst hw''
                  have hn1 : Boxed (V.drewN nq) NB 3 (.int .i64 (pre.length : Nat)) := hn
                  have hr1 : Boxed (V.drewN nq) w.heap.size 4 (.bool false) := hstV.res
                  have hb1 : Below NB W0 (V.drewN nq) := below_drewN hbel nq
                  have hk1 : KeepsOthers V (V.drewN nq) := ⟨Nat.le_refl _, fun _ _ h _ => h⟩
                  have hs1 : Boxed V (NB + 1) 9 (.string s) → Boxed (V.drewN nq) (NB + 1) 9 (.string s) := fun h => h
                  generalize V.drewN nq = V1 at *
                  clear x0 x1 x2 x3 cw cn fn cr fr
                  have cn := hn1.cell
                  have fn := hn1.frozen
                  have cr := hr1.cell
                  have fr := hr1.frozen
                  gi_wp2
                  exact ⟨(hk1.trans (KeepsOthers.setCell _ _ _)).from _, unhide HNO⟩
              case done3 =>
                rintro D1 ys V hD hS ⟨HPR, hn, hbel⟩ hK
                have hys : ys.length = n7 := by
                  have h8 := congrArg List.length (show ys.map (·.1) = places s from hS)
                  rw [List.length_map, unhide HPL] at h8; exact h8
                rw [hys] at hn
                clear HPR hS hys
                have hstV := unhide HST V (g0.trans hbel)
                have hb7 : s.size ≤ maxLen := by unfold maxLen; omega
                have hen : ((n7 : Int) == (n7 : Int)) = true := by simp
                by_cases h0 : 0 < n7
                · have h0s : 0 < s.size := by omega
                  obtain ⟨g, hgg, f0, f1, f2, f3⟩ := hstV.sp 0 0 (first_whole s (by rw [unhide HL]; exact h0))
                  obtain ⟨g', hgg', z0, z1, z2, z3⟩ := hstV.sp (n7 - 1) (lastPos s) (by have := last_whole s (by rw [unhide HL]; exact h0); rwa [unhide HL] at this)
                  subst hgg
                  obtain rfl : g = g' := by simpa using hgg'
                  have HFI : Hid (∀ X, Calls Try.prog 10 #[.string s] X fun e w' => e = .returned (spotV (0 : Nat) ((Utf8.decode s 0).2 : Nat) ((Utf8.decode s 0).1 : Nat) (why s 0)) ∧ Below X.heap.size X w') := fun X => first_any s X hb7 h0s
                  have HLA : Hid (∀ X, Calls Try.prog 11 #[.string s] X fun e w' => e = .returned (spotV (lastPos s : Nat) ((Utf8.decode s (lastPos s)).2 : Nat) ((Utf8.decode s (lastPos s)).1 : Nat) (why s (lastPos s))) ∧ Below X.heap.size X w') := fun X => last_any s X hb7 h0s
                  have hgl : g < V.heap.size := by
                    refine Decidable.byContradiction fun hn => ?_
                    have hnn : V.heap[g]? = none := Array.getElem?_eq_none (by omega)
                    simp [World.cell?, hnn] at f0
                  generalize (Utf8.decode s 0).2 = D0 at *
                  generalize (Utf8.decode s 0).1 = R0 at *
                  generalize why s 0 = C0 at *
                  generalize (Utf8.decode s (lastPos s)).2 = Dz at *
                  generalize (Utf8.decode s (lastPos s)).1 = Rz at *
                  generalize why s (lastPos s) = Cz at *
                  generalize lastPos s = Pz at *
                  have al : ∀ o o1, Below V.heap.size V ((V.alloc o).alloc o1) := fun o o1 => ((Below.refl _ _).alloc (Nat.le_refl _) o).alloc (by simp) o1
                  have cw := fun o o1 => ((hstV.want.alloc o).alloc o1).cell
                  have e0 : ∀ o o1, ((V.alloc o).alloc o1).cell? ⟨g, 0, none⟩ = some (.int .i64 (0 : Nat)) := fun o o1 => ((al o o1).cell (p := ⟨g, 0, none⟩) hgl).trans (by simpa using f0)
                  have e1 : ∀ o o1, ((V.alloc o).alloc o1).cell? ⟨g, 1, none⟩ = some (.int .i64 (D0 : Nat)) := fun o o1 => ((al o o1).cell (p := ⟨g, 1, none⟩) hgl).trans (by simpa using f1)
                  have e2 : ∀ o o1, ((V.alloc o).alloc o1).cell? ⟨g, 2, none⟩ = some (.int .i32 (R0 : Nat)) := fun o o1 => ((al o o1).cell (p := ⟨g, 2, none⟩) hgl).trans (by simpa using f2)
                  have e3 : ∀ o o1, ((V.alloc o).alloc o1).cell? ⟨g, 3, none⟩ = some (.int .i64 C0) := fun o o1 => ((al o o1).cell (p := ⟨g, 3, none⟩) hgl).trans (by simpa using f3)
                  obtain ⟨q, hq⟩ : ∃ q, n7 = q + 1 := ⟨n7 - 1, by omega⟩
                  rw [show n7 - 1 = q by omega] at z0 z1 z2 z3
                  have k0 : ∀ o o1, ((V.alloc o).alloc o1).cell? ⟨g, q * 4, none⟩ = some (.int .i64 (Pz : Nat)) := fun o o1 => ((al o o1).cell (p := ⟨g, q * 4, none⟩) hgl).trans z0
                  have k1 : ∀ o o1, ((V.alloc o).alloc o1).cell? ⟨g, q * 4 + 1, none⟩ = some (.int .i64 (Dz : Nat)) := fun o o1 => ((al o o1).cell (p := ⟨g, q * 4 + 1, none⟩) hgl).trans z1
                  have k2 : ∀ o o1, ((V.alloc o).alloc o1).cell? ⟨g, q * 4 + 2, none⟩ = some (.int .i32 (Rz : Nat)) := fun o o1 => ((al o o1).cell (p := ⟨g, q * 4 + 2, none⟩) hgl).trans z2
                  have k3 : ∀ o o1, ((V.alloc o).alloc o1).cell? ⟨g, q * 4 + 3, none⟩ = some (.int .i64 Cz) := fun o o1 => ((al o o1).cell (p := ⟨g, q * 4 + 3, none⟩) hgl).trans z3
                  have i1 : (n7 : Int) - 1 = (q : Int) := by omega
                  have i2 : (q : Int) < (n7 : Int) := by omega
                  have i3 : q < n7 := by omega
                  have i4 : decide ((0 : Int) < (n7 : Int)) = true := by simp; omega
                  have i5 : decide (0 < n7) = true := by simp; omega
                  have HQ := hide hq
                  clear f0 f1 f2 f3 z0 z1 z2 z3 hq hgg'
                  have HRU : Hid (∀ X, Calls Try.prog 13 #[.string s] X fun e w' => ∃ v, e = .returned v ∧ w'.ownsRow X.heap.size 21 1 v n7 (i32s (runeInts s)) ∧ Below X.heap.size X w') := by
                    intro X
                    refine (runes_any s X (by omega)).mono ?_
                    rintro e w' ⟨cp, rfl, hr, hb⟩
                    rw [runeInts_vals, unhide HL] at hr
                    exact ⟨_, by rw [unhide HL], hr, hb⟩
                  have HRR : Hid (∀ X, Calls Try.prog 14 #[.string s] X fun e w' => ∃ v, e = .returned v ∧ w'.ownsRow X.heap.size 21 1 v n7 (i32s (runeInts s)) ∧ Below X.heap.size X w') := by
                    intro X
                    have := refRunes_any s X (by omega)
                    rwa [unhide HL] at this
                  have HRN : Hid ((runeInts s).length = n7) := (runeInts_len s).trans (unhide HL)
                  gi_wp2
                  go_wp2
                  obtain ⟨V2, hV2⟩ : ∃ V2, (V.alloc (Obj.cells #[Value.int IntKind.i64 0, Value.int IntKind.i64 (D0 : Nat), Value.int IntKind.i32 (R0 : Nat), Value.int IntKind.i64 C0] 27)).alloc (Obj.cells #[Value.int IntKind.i64 (Pz : Nat), Value.int IntKind.i64 (Dz : Nat), Value.int IntKind.i32 (Rz : Nat), Value.int IntKind.i64 Cz] 27) = V2 := ⟨_, rfl⟩
                  have hb2 : Below V.heap.size V V2 := by rw [← hV2]; exact al _ _
                  have bf : V2.heap[V.heap.size]? = some (.cells #[Value.int IntKind.i64 0, Value.int IntKind.i64 (D0 : Nat), Value.int IntKind.i32 (R0 : Nat), Value.int IntKind.i64 C0] 27) := by rw [← hV2]; exact old_blk (new_blk rfl)
                  have bz : V2.heap[V.heap.size + 1]? = some (.cells #[Value.int IntKind.i64 (Pz : Nat), Value.int IntKind.i64 (Dz : Nat), Value.int IntKind.i32 (Rz : Nat), Value.int IntKind.i64 Cz] 27) := by rw [← hV2]; exact new_blk (by simp)
                  have hn2 := boxed_below hn hb2
                  have hw2 := boxed_below hstV.want hb2
                  have hr2 := boxed_below hstV.res hb2
                  have hK2 : V2.heap[D1]? = some (Obj.deferred (some [])) := (hb2.block D1 (Array.getElem?_eq_some_iff.1 hK).1).trans hK
                  have hB2 : Below w.heap.size w V2 := hstV.bel.trans (hb2.mono hstV.bel.size)
                  have hlr : w.heap.size < NB := by have := (unhide HST X11 (Below.refl _ _)).res.lt; omega
                  have hlv : NB < V.heap.size := hn.lt
                  have hlw : w1.heap.size ≠ w.heap.size := fun e => by
                    have h1 : V.heap[w1.heap.size]? = _ := hstV.want
                    have h2 : V.heap[w.heap.size]? = _ := hstV.res
                    rw [e, h2] at h1
                    cases h1
                  rw [hV2]
                  have HSS : Hid (∀ X, Below V2.heap.size V2 X → (X.cell? ⟨NB, 0, none⟩ = some (.int .i64 (n7 : Nat)) ∧ X.cell? ⟨w1.heap.size, 0, none⟩ = some (.slice (some ⟨g, 0, none⟩) n7 c) ∧ (X.cell? ⟨V.heap.size, 0, none⟩ = some (.int .i64 0) ∧ X.cell? ⟨V.heap.size, 1, none⟩ = some (.int .i64 (D0 : Nat)) ∧ X.cell? ⟨V.heap.size, 2, none⟩ = some (.int .i32 (R0 : Nat)) ∧ X.cell? ⟨V.heap.size, 3, none⟩ = some (.int .i64 C0)) ∧ (X.cell? ⟨V.heap.size + 1, 0, none⟩ = some (.int .i64 (Pz : Nat)) ∧ X.cell? ⟨V.heap.size + 1, 1, none⟩ = some (.int .i64 (Dz : Nat)) ∧ X.cell? ⟨V.heap.size + 1, 2, none⟩ = some (.int .i32 (Rz : Nat)) ∧ X.cell? ⟨V.heap.size + 1, 3, none⟩ = some (.int .i64 Cz)))) := by
                    intro X hX
                    exact ⟨(boxed_below hn2 hX).cell, (boxed_below hw2 hX).cell, cell_four _ _ _ _ _ _ _ ((hX.block _ (Array.getElem?_eq_some_iff.1 bf).1).trans bf), cell_four _ _ _ _ _ _ _ ((hX.block _ (Array.getElem?_eq_some_iff.1 bz).1).trans bz)⟩
                  have HS9 : Hid (∀ X, Below V2.heap.size V2 X → ((X.setCell ⟨w.heap.size, 0, none⟩ (.bool true)).cell? ⟨NB, 0, none⟩ = some (.int .i64 (n7 : Nat)) ∧ (X.setCell ⟨w.heap.size, 0, none⟩ (.bool true)).cell? ⟨w1.heap.size, 0, none⟩ = some (.slice (some ⟨g, 0, none⟩) n7 c) ∧ ((X.setCell ⟨w.heap.size, 0, none⟩ (.bool true)).cell? ⟨V.heap.size, 0, none⟩ = some (.int .i64 0) ∧ (X.setCell ⟨w.heap.size, 0, none⟩ (.bool true)).cell? ⟨V.heap.size, 1, none⟩ = some (.int .i64 (D0 : Nat)) ∧ (X.setCell ⟨w.heap.size, 0, none⟩ (.bool true)).cell? ⟨V.heap.size, 2, none⟩ = some (.int .i32 (R0 : Nat)) ∧ (X.setCell ⟨w.heap.size, 0, none⟩ (.bool true)).cell? ⟨V.heap.size, 3, none⟩ = some (.int .i64 C0)) ∧ ((X.setCell ⟨w.heap.size, 0, none⟩ (.bool true)).cell? ⟨V.heap.size + 1, 0, none⟩ = some (.int .i64 (Pz : Nat)) ∧ (X.setCell ⟨w.heap.size, 0, none⟩ (.bool true)).cell? ⟨V.heap.size + 1, 1, none⟩ = some (.int .i64 (Dz : Nat)) ∧ (X.setCell ⟨w.heap.size, 0, none⟩ (.bool true)).cell? ⟨V.heap.size + 1, 2, none⟩ = some (.int .i32 (Rz : Nat)) ∧ (X.setCell ⟨w.heap.size, 0, none⟩ (.bool true)).cell? ⟨V.heap.size + 1, 3, none⟩ = some (.int .i64 Cz)))) := by
                    intro X hX
                    exact ⟨((boxed_below hn2 hX).other (by omega) _).cell, ((boxed_below hw2 hX).other (by omega) _).cell, cell_four _ _ _ _ _ _ _ ((Below.heap_setCell _ _ _ _ (by show _ ≠ w.heap.size; omega)).trans ((hX.block _ (Array.getElem?_eq_some_iff.1 bf).1).trans bf)), cell_four _ _ _ _ _ _ _ ((Below.heap_setCell _ _ _ _ (by show _ ≠ w.heap.size; omega)).trans ((hX.block _ (Array.getElem?_eq_some_iff.1 bz).1).trans bz))⟩
                  have HRS : Hid (∀ X, Below V2.heap.size V2 X → Boxed X w.heap.size 4 (.bool false)) := fun X hX => boxed_below hr2 hX
                  have HKK : Hid (∀ X, Below V2.heap.size V2 X → X.heap[D1]? = some (Obj.deferred (some []))) := fun X hX => (hX.block D1 (Array.getElem?_eq_some_iff.1 hK2).1).trans hK2
                  have hbX : Below V2.heap.size V2 V2.drew := ⟨rfl, rfl, rfl, Nat.le_refl _, fun _ _ => rfl⟩
                  have hT : Three V2 V2.drew n7 (runeInts s) [] := ⟨by simp, List.Pairwise.nil⟩
                  clear hV2 hb2 bf bz hn2 hw2 hr2 hn hstV hK hst HST al cw e0 e1 e2 e3 k0 k1 k2 k3 i1 i2 i3 i4 i5 hbel bn0 bq0 g0 hK2
                  generalize V.heap.size = NF at *
                  refine wp_only ?_
                  go_region_held (fun X => (X.cell? ⟨NB, 0, none⟩ = some (.int .i64 (n7 : Nat)) ∧ X.cell? ⟨w1.heap.size, 0, none⟩ = some (.slice (some ⟨g, 0, none⟩) n7 c) ∧ (X.cell? ⟨NF, 0, none⟩ = some (.int .i64 0) ∧ X.cell? ⟨NF, 1, none⟩ = some (.int .i64 (D0 : Nat)) ∧ X.cell? ⟨NF, 2, none⟩ = some (.int .i32 (R0 : Nat)) ∧ X.cell? ⟨NF, 3, none⟩ = some (.int .i64 C0)) ∧ (X.cell? ⟨NF + 1, 0, none⟩ = some (.int .i64 (Pz : Nat)) ∧ X.cell? ⟨NF + 1, 1, none⟩ = some (.int .i64 (Dz : Nat)) ∧ X.cell? ⟨NF + 1, 2, none⟩ = some (.int .i32 (Rz : Nat)) ∧ X.cell? ⟨NF + 1, 3, none⟩ = some (.int .i64 Cz)))) (first | exact unhide HSS _ hbX | exact unhide HS9 _ hbX) (first
                    | (go_at_call 10; with_reducible refine (unhide HFI _).mono ?_; rintro e wA ⟨rfl, hbA⟩; have hT := hT.below hbA; have hbX := hbX.trans (hbA.mono hbX.size))
                    | (go_at_call 11; with_reducible refine (unhide HLA _).mono ?_; rintro e wA ⟨rfl, hbA⟩; have hT := hT.below hbA; have hbX := hbX.trans (hbA.mono hbX.size))
                    | (go_at_call 13; with_reducible refine (unhide HRU _).mono ?_; rintro e wA ⟨vR, rfl, hrA, hbA⟩; have hT := hT.add hbA hbX.size hrA; have hbX := hbX.trans (hbA.mono hbX.size))
                    | (go_at_call 14; with_reducible refine (unhide HRR _).mono ?_; rintro e wA ⟨vR, rfl, hrA, hbA⟩; have hT := hT.add hbA hbX.size hrA; have hbX := hbX.trans (hbA.mono hbX.size))
                    | (go_at_call 12; have hall := hT.all; obtain ⟨r1, r2, r3, d12, d13, d23⟩ := hall; first
                        | (with_reducible refine (fresh_three (unhide HRN) (by omega) hbX.size r1 r2 r3 d12 (apart_symm d13) (apart_symm d23)).mono ?_; rintro e wA ⟨rfl, hbA⟩; have hbX := hbX.trans hbA)
                        | (with_reducible refine (fresh_three (unhide HRN) (by omega) hbX.size r2 r1 r3 (apart_symm d12) (apart_symm d23) (apart_symm d13)).mono ?_; rintro e wA ⟨rfl, hbA⟩; have hbX := hbX.trans hbA)
                        | (with_reducible refine (fresh_three (unhide HRN) (by omega) hbX.size r1 r3 r2 d13 (apart_symm d12) d23).mono ?_; rintro e wA ⟨rfl, hbA⟩; have hbX := hbX.trans hbA)
                        | (with_reducible refine (fresh_three (unhide HRN) (by omega) hbX.size r3 r1 r2 (apart_symm d13) d23 (apart_symm d12)).mono ?_; rintro e wA ⟨rfl, hbA⟩; have hbX := hbX.trans hbA)
                        | (with_reducible refine (fresh_three (unhide HRN) (by omega) hbX.size r2 r3 r1 d23 d12 d13).mono ?_; rintro e wA ⟨rfl, hbA⟩; have hbX := hbX.trans hbA)
                        | (with_reducible refine (fresh_three (unhide HRN) (by omega) hbX.size r3 r2 r1 (apart_symm d23) d13 d12).mono ?_; rintro e wA ⟨rfl, hbA⟩; have hbX := hbX.trans hbA))
                    | (go_at_call 15; with_reducible refine (lives_any _).mono ?_; rintro e wA ⟨rfl, hbA⟩; have hbX := hbX.trans (hbA.mono hbX.size); have hr9 := unhide HRS _ hbX; have c9 := hr9.cell; have f9 := hr9.frozen))
                  all_goals
                    refine onlyN_mk ?_
                    have k1 := (KeepsOthers.setCell wA ⟨w.heap.size, 0, none⟩ (.bool true)).same D1 _ (unhide HKK _ hbX) rfl
                    have d8 := hr9.set (.bool true)
                    have hB8 := (hB2.trans (hbX.mono hB2.size)).setCell (p := ⟨w.heap.size, 0, none⟩) (by simp) (.bool true)
                    have t1 : Boxed ((wA.setCell ⟨w.heap.size, 0, none⟩ (.bool true)).putObj D1 (.deferred none)) w.heap.size 4 (.bool true) := (World.putObj_heap_other (by omega)).trans d8
                    have q1 := t1.cell
                    go_wp2
                    refine ⟨by simp, .inl ⟨_, _, rfl, run_takeDeferred k1, ?_⟩⟩
                    exact ⟨.bool true, by simp [results, Try.f3, go_sem, q1], rfl, hB8.trans (belowK_b (w := w) (Nat.le_refl _) _ D1 _ _ (by omega) k1 rfl rfl)⟩
                · have hse : s.size = 0 := by
                    refine Decidable.byContradiction fun hn => ?_
                    have h1 := unhide HL
                    rw [chars_step s 0 (by omega)] at h1
                    simp at h1
                    omega
                  have HFI : Hid (∀ X, Calls Try.prog 10 #[.string s] X fun e w' => e = .returned (spotV 0 0 0 0) ∧ Below X.heap.size X w') := fun X => first_nil s X hse
                  have HLA : Hid (∀ X, Calls Try.prog 11 #[.string s] X fun e w' => e = .returned (spotV 0 0 0 0) ∧ Below X.heap.size X w') := fun X => last_nil s X hse
                  have al : ∀ o o1, Below V.heap.size V ((V.alloc o).alloc o1) := fun o o1 => ((Below.refl _ _).alloc (Nat.le_refl _) o).alloc (by simp) o1
                  have cw := fun o o1 => ((hstV.want.alloc o).alloc o1).cell
                  have i4 : decide ((0 : Int) < (n7 : Int)) = false := by simp; omega
                  have i5 : decide (0 < n7) = false := by simp; omega
                  have HSE := hide hse
                  clear hse
                  have HRU : Hid (∀ X, Calls Try.prog 13 #[.string s] X fun e w' => ∃ v, e = .returned v ∧ w'.ownsRow X.heap.size 21 1 v n7 (i32s (runeInts s)) ∧ Below X.heap.size X w') := by
                    intro X
                    refine (runes_any s X (by omega)).mono ?_
                    rintro e w' ⟨cp, rfl, hr, hb⟩
                    rw [runeInts_vals, unhide HL] at hr
                    exact ⟨_, by rw [unhide HL], hr, hb⟩
                  have HRR : Hid (∀ X, Calls Try.prog 14 #[.string s] X fun e w' => ∃ v, e = .returned v ∧ w'.ownsRow X.heap.size 21 1 v n7 (i32s (runeInts s)) ∧ Below X.heap.size X w') := by
                    intro X
                    have := refRunes_any s X (by omega)
                    rwa [unhide HL] at this
                  have HRN : Hid ((runeInts s).length = n7) := (runeInts_len s).trans (unhide HL)
                  gi_wp2
                  go_wp2
                  obtain ⟨V2, hV2⟩ : ∃ V2, (V.alloc (Obj.cells #[Value.int IntKind.i64 0, Value.int IntKind.i64 0, Value.int IntKind.i32 0, Value.int IntKind.i64 0] 27)).alloc (Obj.cells #[Value.int IntKind.i64 0, Value.int IntKind.i64 0, Value.int IntKind.i32 0, Value.int IntKind.i64 0] 27) = V2 := ⟨_, rfl⟩
                  have hb2 : Below V.heap.size V V2 := by rw [← hV2]; exact al _ _
                  have bf : V2.heap[V.heap.size]? = some (.cells #[Value.int IntKind.i64 0, Value.int IntKind.i64 0, Value.int IntKind.i32 0, Value.int IntKind.i64 0] 27) := by rw [← hV2]; exact old_blk (new_blk rfl)
                  have bz : V2.heap[V.heap.size + 1]? = some (.cells #[Value.int IntKind.i64 0, Value.int IntKind.i64 0, Value.int IntKind.i32 0, Value.int IntKind.i64 0] 27) := by rw [← hV2]; exact new_blk (by simp)
                  have hn2 := boxed_below hn hb2
                  have hw2 := boxed_below hstV.want hb2
                  have hr2 := boxed_below hstV.res hb2
                  have hK2 : V2.heap[D1]? = some (Obj.deferred (some [])) := (hb2.block D1 (Array.getElem?_eq_some_iff.1 hK).1).trans hK
                  have hB2 : Below w.heap.size w V2 := hstV.bel.trans (hb2.mono hstV.bel.size)
                  have hlr : w.heap.size < NB := by have := (unhide HST X11 (Below.refl _ _)).res.lt; omega
                  have hlv : NB < V.heap.size := hn.lt
                  have hlw : w1.heap.size ≠ w.heap.size := fun e => by
                    have h1 : V.heap[w1.heap.size]? = _ := hstV.want
                    have h2 : V.heap[w.heap.size]? = _ := hstV.res
                    rw [e, h2] at h1
                    cases h1
                  rw [hV2]
                  have HSS : Hid (∀ X, Below V2.heap.size V2 X → (X.cell? ⟨NB, 0, none⟩ = some (.int .i64 (n7 : Nat)) ∧ X.cell? ⟨w1.heap.size, 0, none⟩ = some (.slice l n7 c) ∧ (X.cell? ⟨V.heap.size, 0, none⟩ = some (.int .i64 0) ∧ X.cell? ⟨V.heap.size, 1, none⟩ = some (.int .i64 0) ∧ X.cell? ⟨V.heap.size, 2, none⟩ = some (.int .i32 0) ∧ X.cell? ⟨V.heap.size, 3, none⟩ = some (.int .i64 0)) ∧ (X.cell? ⟨V.heap.size + 1, 0, none⟩ = some (.int .i64 0) ∧ X.cell? ⟨V.heap.size + 1, 1, none⟩ = some (.int .i64 0) ∧ X.cell? ⟨V.heap.size + 1, 2, none⟩ = some (.int .i32 0) ∧ X.cell? ⟨V.heap.size + 1, 3, none⟩ = some (.int .i64 0)))) := by
                    intro X hX
                    exact ⟨(boxed_below hn2 hX).cell, (boxed_below hw2 hX).cell, cell_four _ _ _ _ _ _ _ ((hX.block _ (Array.getElem?_eq_some_iff.1 bf).1).trans bf), cell_four _ _ _ _ _ _ _ ((hX.block _ (Array.getElem?_eq_some_iff.1 bz).1).trans bz)⟩
                  have HS9 : Hid (∀ X, Below V2.heap.size V2 X → ((X.setCell ⟨w.heap.size, 0, none⟩ (.bool true)).cell? ⟨NB, 0, none⟩ = some (.int .i64 (n7 : Nat)) ∧ (X.setCell ⟨w.heap.size, 0, none⟩ (.bool true)).cell? ⟨w1.heap.size, 0, none⟩ = some (.slice l n7 c) ∧ ((X.setCell ⟨w.heap.size, 0, none⟩ (.bool true)).cell? ⟨V.heap.size, 0, none⟩ = some (.int .i64 0) ∧ (X.setCell ⟨w.heap.size, 0, none⟩ (.bool true)).cell? ⟨V.heap.size, 1, none⟩ = some (.int .i64 0) ∧ (X.setCell ⟨w.heap.size, 0, none⟩ (.bool true)).cell? ⟨V.heap.size, 2, none⟩ = some (.int .i32 0) ∧ (X.setCell ⟨w.heap.size, 0, none⟩ (.bool true)).cell? ⟨V.heap.size, 3, none⟩ = some (.int .i64 0)) ∧ ((X.setCell ⟨w.heap.size, 0, none⟩ (.bool true)).cell? ⟨V.heap.size + 1, 0, none⟩ = some (.int .i64 0) ∧ (X.setCell ⟨w.heap.size, 0, none⟩ (.bool true)).cell? ⟨V.heap.size + 1, 1, none⟩ = some (.int .i64 0) ∧ (X.setCell ⟨w.heap.size, 0, none⟩ (.bool true)).cell? ⟨V.heap.size + 1, 2, none⟩ = some (.int .i32 0) ∧ (X.setCell ⟨w.heap.size, 0, none⟩ (.bool true)).cell? ⟨V.heap.size + 1, 3, none⟩ = some (.int .i64 0)))) := by
                    intro X hX
                    exact ⟨((boxed_below hn2 hX).other (by omega) _).cell, ((boxed_below hw2 hX).other (by omega) _).cell, cell_four _ _ _ _ _ _ _ ((Below.heap_setCell _ _ _ _ (by show _ ≠ w.heap.size; omega)).trans ((hX.block _ (Array.getElem?_eq_some_iff.1 bf).1).trans bf)), cell_four _ _ _ _ _ _ _ ((Below.heap_setCell _ _ _ _ (by show _ ≠ w.heap.size; omega)).trans ((hX.block _ (Array.getElem?_eq_some_iff.1 bz).1).trans bz))⟩
                  have HRS : Hid (∀ X, Below V2.heap.size V2 X → Boxed X w.heap.size 4 (.bool false)) := fun X hX => boxed_below hr2 hX
                  have HKK : Hid (∀ X, Below V2.heap.size V2 X → X.heap[D1]? = some (Obj.deferred (some []))) := fun X hX => (hX.block D1 (Array.getElem?_eq_some_iff.1 hK2).1).trans hK2
                  have hbX : Below V2.heap.size V2 V2.drew := ⟨rfl, rfl, rfl, Nat.le_refl _, fun _ _ => rfl⟩
                  have hT : Three V2 V2.drew n7 (runeInts s) [] := ⟨by simp, List.Pairwise.nil⟩
                  clear hV2 hb2 bf bz hn2 hw2 hr2 hn hstV hK hst HST al cw i4 i5 hbel bn0 bq0 g0 hK2
                  generalize V.heap.size = NF at *
                  refine wp_only ?_
                  go_region_held (fun X => (X.cell? ⟨NB, 0, none⟩ = some (.int .i64 (n7 : Nat)) ∧ X.cell? ⟨w1.heap.size, 0, none⟩ = some (.slice l n7 c) ∧ (X.cell? ⟨NF, 0, none⟩ = some (.int .i64 0) ∧ X.cell? ⟨NF, 1, none⟩ = some (.int .i64 0) ∧ X.cell? ⟨NF, 2, none⟩ = some (.int .i32 0) ∧ X.cell? ⟨NF, 3, none⟩ = some (.int .i64 0)) ∧ (X.cell? ⟨NF + 1, 0, none⟩ = some (.int .i64 0) ∧ X.cell? ⟨NF + 1, 1, none⟩ = some (.int .i64 0) ∧ X.cell? ⟨NF + 1, 2, none⟩ = some (.int .i32 0) ∧ X.cell? ⟨NF + 1, 3, none⟩ = some (.int .i64 0)))) (first | exact unhide HSS _ hbX | exact unhide HS9 _ hbX) (first
                    | (go_at_call 10; with_reducible refine (unhide HFI _).mono ?_; rintro e wA ⟨rfl, hbA⟩; have hT := hT.below hbA; have hbX := hbX.trans (hbA.mono hbX.size))
                    | (go_at_call 11; with_reducible refine (unhide HLA _).mono ?_; rintro e wA ⟨rfl, hbA⟩; have hT := hT.below hbA; have hbX := hbX.trans (hbA.mono hbX.size))
                    | (go_at_call 13; with_reducible refine (unhide HRU _).mono ?_; rintro e wA ⟨vR, rfl, hrA, hbA⟩; have hT := hT.add hbA hbX.size hrA; have hbX := hbX.trans (hbA.mono hbX.size))
                    | (go_at_call 14; with_reducible refine (unhide HRR _).mono ?_; rintro e wA ⟨vR, rfl, hrA, hbA⟩; have hT := hT.add hbA hbX.size hrA; have hbX := hbX.trans (hbA.mono hbX.size))
                    | (go_at_call 12; have hall := hT.all; obtain ⟨r1, r2, r3, d12, d13, d23⟩ := hall; first
                        | (with_reducible refine (fresh_three (unhide HRN) (by omega) hbX.size r1 r2 r3 d12 (apart_symm d13) (apart_symm d23)).mono ?_; rintro e wA ⟨rfl, hbA⟩; have hbX := hbX.trans hbA)
                        | (with_reducible refine (fresh_three (unhide HRN) (by omega) hbX.size r2 r1 r3 (apart_symm d12) (apart_symm d23) (apart_symm d13)).mono ?_; rintro e wA ⟨rfl, hbA⟩; have hbX := hbX.trans hbA)
                        | (with_reducible refine (fresh_three (unhide HRN) (by omega) hbX.size r1 r3 r2 d13 (apart_symm d12) d23).mono ?_; rintro e wA ⟨rfl, hbA⟩; have hbX := hbX.trans hbA)
                        | (with_reducible refine (fresh_three (unhide HRN) (by omega) hbX.size r3 r1 r2 (apart_symm d13) d23 (apart_symm d12)).mono ?_; rintro e wA ⟨rfl, hbA⟩; have hbX := hbX.trans hbA)
                        | (with_reducible refine (fresh_three (unhide HRN) (by omega) hbX.size r2 r3 r1 d23 d12 d13).mono ?_; rintro e wA ⟨rfl, hbA⟩; have hbX := hbX.trans hbA)
                        | (with_reducible refine (fresh_three (unhide HRN) (by omega) hbX.size r3 r2 r1 (apart_symm d23) d13 d12).mono ?_; rintro e wA ⟨rfl, hbA⟩; have hbX := hbX.trans hbA))
                    | (go_at_call 15; with_reducible refine (lives_any _).mono ?_; rintro e wA ⟨rfl, hbA⟩; have hbX := hbX.trans (hbA.mono hbX.size); have hr9 := unhide HRS _ hbX; have c9 := hr9.cell; have f9 := hr9.frozen))
                  all_goals
                    refine onlyN_mk ?_
                    have k1 := (KeepsOthers.setCell wA ⟨w.heap.size, 0, none⟩ (.bool true)).same D1 _ (unhide HKK _ hbX) rfl
                    have d8 := hr9.set (.bool true)
                    have hB8 := (hB2.trans (hbX.mono hB2.size)).setCell (p := ⟨w.heap.size, 0, none⟩) (by simp) (.bool true)
                    have t1 : Boxed ((wA.setCell ⟨w.heap.size, 0, none⟩ (.bool true)).putObj D1 (.deferred none)) w.heap.size 4 (.bool true) := (World.putObj_heap_other (by omega)).trans d8
                    have q1 := t1.cell
                    go_wp2
                    refine ⟨by simp, .inl ⟨_, _, rfl, run_takeDeferred k1, ?_⟩⟩
                    exact ⟨.bool true, by simp [results, Try.f3, go_sem, q1], rfl, hB8.trans (belowK_b (w := w) (Nat.le_refl _) _ D1 _ _ (by omega) k1 rfl rfl)⟩
              case stop3 =>
                rintro D1 c' pre V hD hSp hx hK
                refine absurd ?_ hx
                have := List.prefix_iff_eq_take.1 hSp
                rwa [List.length_map] at this

end utfReads
end Go.Proofs.Ytjkchpjopgpeeaa
namespace Go.Proofs.Ytjkchpjopgpeeaa.utfReads
open Go.ChangeShapes Go.WideShapes Go.ChangeAt Go.RowKit Go.PlainAid Go.Lib
open Go.ChangeMaps (open_string shut_string)
set_option linter.unusedVariables false
theorem own : ownKnob Try.prog.godebug = none := by kernel_rfl
theorem laidOut : laidOutB Try.prog = true := by kernel_rfl

set_option maxRecDepth 100000 in
theorem contract (H : Type) (enc : TypeId × Value → H) (W : World) (base : Nat) (args : Array Value) (ds gs : List (DataW H)) (before : List MemPlace)
    (hval : ∀ (j : Nat) t v, Try.f3.params[j]? = some t → args[j]? = some v → Value.okWide Try.prog W .any base t v)
    (hW : DataW.Whole enc Try.prog Try.f3.params.toList Rows.utfReadsSpec.vars false W args.toList ds gs before) (hk : Rows.uptoSmall H (ds ++ gs) = true) :
    Calls Try.prog 3 args W fun e W' => ∃ v, e = .returned v ∧ Rows.utfReadsSpec.post enc Try.prog Try.f3 false true false false W args v W' := by
  have hW' := hW
  obtain ⟨p, q, hA0, hV, rfl, hfz, hnd⟩ := hW
  have hA : DataW.TrodAll enc Try.prog W 0 (fun _ => true) true Try.f3.params.toList args.toList ds p := hA0
  rw [Try.params3] at hA hval
  obtain ⟨v0, vs0, d0, ds0, p0, q0, hargs, rfl, rfl, h0, r0⟩ := trodAll_cons hA
  obtain ⟨v1, vs1, d1, ds1, p1, q1, rfl, rfl, rfl, h1, r1⟩ := trodAll_cons r0
  obtain ⟨rfl, rfl, rfl⟩ := trodAll_nil r1
  obtain rfl : args = #[v0, v1] := by cases args; simp_all
  obtain ⟨rfl, rfl⟩ := trodVars_none hV
  obtain ⟨a0, rfl, rfl, rfl, w0⟩ := open_string Try.underlying9 (hval 0 9 v0 rfl rfl) h0
  obtain ⟨a1, rfl, hd1, rfl, w1⟩ := open_int Try.underlying3 (hval 1 3 v1 rfl rfl) h1
  have hk' : Rows.uptoSmall H [.lit (.string a0.data.toList), d1] = true := hk
  have hb := bulk_bound hk'
  simp only [Rows.uptoBulkAll] at hb
  rw [bulk_string a0] at hb
  have c0 : a0.size ≤ 1048576 := by omega
  clear hA0
  have hwk := walk a0 a1 W c0
  subst hd1
  refine hwk.mono fun e W' ⟨he, bel⟩ => ?_
  subst he
  exact ⟨_, rfl, _, _, _, [], _, [], hW', trodAll_mk1 (shut_bool Try.underlying4 _), (trodAll_cons_mk (shut_string Try.underlying9 w0) (trodAll_cons_mk (shut_int Try.underlying3 w1) trodAll_mk0)), rfl, bel.frame _, fun h => by cases h⟩

set_option maxRecDepth 100000 in
theorem lifted (os : Os) (started : os.Started) (H : Type) (enc : TypeId × Value → H) (F : Stop.Interp) :
    ReturnsInHanded {} Try.checked os 3 .any ((Rows.OpenSpec.upto Rows.utfReadsSpec).pre6 enc Try.prog Try.f3 Rows.utfReadsUptoRow.domain false) (((Rows.OpenSpec.upto Rows.utfReadsSpec).at F).post enc Try.prog Try.f3 false true false false) := by
  refine returnsInHanded_of_cond (C := Try.checked) (s := Rows.OpenSpec.upto Rows.utfReadsSpec) (k := Rows.uptoSmall) rfl own started (by kernel_rfl) Try.func3
    (OpenSpec.witness (enc := enc) (C := Try.checked) (s := Rows.OpenSpec.upto Rows.utfReadsSpec) (k := Rows.uptoSmall) rfl false ⟨#[], #[.string ByteArray.empty, .int .i64 0], []⟩ 8 (by kernel_rfl) (by kernel_rfl) (by kernel_rfl)
      (x := ([.lit (.string []), .lit (.int .i64 0)], [], [])) (by kernel_rfl) rfl (by kernel_rfl)) ?_
  intro W base args ds gs before hval hW _ hk _
  exact contract H enc W base args ds gs before hval hW hk

theorem over : Rows.utfReadsUptoRow.holds Try.pinned (Rows.OpenSpec.upto Rows.utfReadsSpec) :=
  OpenClaim.holds_of_cond 3 Try.f3 rfl rfl rfl rfl rfl rfl rfl ⟨rfl, rfl, rfl, rfl, rfl⟩ rfl rfl rfl rfl rfl (by kernel_rfl) Try.func3 (by kernel_rfl)
    (of_decide_eq_true (by kernel_rfl)) (by unfold Func.isWrapper; first | (rw [if_pos (by decide +kernel)]; kernel_rfl) | (rw [if_neg (by decide +kernel)]; exact ⟨rfl, rfl⟩))
    (fun os started H enc _ F => lifted os started H enc F)

end Go.Proofs.Ytjkchpjopgpeeaa.utfReads
namespace Go.Proofs.Ytjkchpjopgpeeaa
theorem utfReads_upto : Rows.UtfReadsUptoSaid := utfReads.over
end Go.Proofs.Ytjkchpjopgpeeaa

