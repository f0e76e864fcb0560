/-
  PointsByPoint: the law's covers: stretches and gaps together have each number once.
-/
import Derived.Test.YtnhcbcbceaeceaaPoBa
import Derived.Test.YtnhcbcbceaeceaaPStr2I
import Derived.Test.YtnhcbcbceaeceaaPCutI
import Derived.Test.YtnhcbcbceaeceaaPPutI
import Derived.BigFrameIn
import Derived.BigGuardIn
import Derived.BigRegionIn
import Derived.Lib.QuietBelow
import Derived.Test.YtnhcbcbceaeceaaPoBb
import Derived.OwnWalkIn
namespace Go.Proofs.Ytnhcbcbceaeceaa
open Go.RowKit Go.PlainAid Go.Lib Go.PRow Go.Shelf Go.Seq4 Go.Seq8 VI
attribute [local go_sem] Oper.semAt_some
set_option linter.unusedVariables false
set_option linter.unusedSimpArgs false

/-- what a stretch that is told says of the gaps ahead of it and behind it -/
theorem cover_step {ss pre : List (Pc Int)} {x : Pc Int} (o : OkP ss) (hSp : pre ++ [x] <+: ss) :
    0 ≤ x.lo ∧ x.lo ≤ x.hi ∧ x.hi ≤ 1114111 ∧ 0 ≤ endP 0 pre ∧ endP 0 pre ≤ x.lo ∧ 0 ≤ sizeP pre ∧ sizeP pre ≤ 1114112 ∧ endP 0 (pre ++ [x]) = x.hi + 1 ∧ sizeP (pre ++ [x]) = sizeP pre + (x.hi - x.lo + 1) ∧ sizeP (pre ++ [x]) ≤ 1114112 ∧
    (endP 0 pre ≠ x.lo → (gapsPre 0 (pre ++ [x])).length = (gapsPre 0 pre).length + 1 ∧ (gapsP ss)[(gapsPre 0 pre).length]? = some (endP 0 pre, x.lo - 1)) ∧
    (endP 0 pre = x.lo → (gapsPre 0 (pre ++ [x])).length = (gapsPre 0 pre).length) ∧
    ∀ k g, (gapsPre 0 (pre ++ [x])).length ≤ k → (gapsP ss)[k]? = some g → x.lo < g.1 := by
  have hmem : x ∈ ss := hSp.subset (List.mem_append_right _ (List.mem_singleton.2 rfl))
  obtain ⟨t, ht⟩ := hSp
  have e : ss = pre ++ x :: t := by rw [← ht]; simp
  have o' : OkP (pre ++ x :: t) := by rw [← e]; exact o
  have op : OkP pre := ⟨(List.pairwise_append.1 o'.1).1, fun p hp => o'.2 p (List.mem_append_left _ hp)⟩
  have opx : OkP (pre ++ [x]) := by
    rw [← ht] at o
    exact ⟨(List.pairwise_append.1 o.1).1, fun p hp => o.2 p (List.mem_append_left _ hp)⟩
  have k := o.2 x hmem
  have e1 := endP_le o' 0 k.1 (Int.le_refl _)
  have b1 := sizeP_bound op
  have b2 := sizeP_bound opx
  have hl := gapsPre_snoc_len pre x
  have hs : sizeP (pre ++ [x]) = sizeP pre + (x.hi - x.lo + 1) := by rw [sizeP_append]; simp [sizeP]
  refine ⟨k.1, k.2.1, k.2.2, e1.2, e1.1, b1.1, b1.2, endP_snoc _ _ _, hs, b2.2, fun hne => ⟨by rw [hl, if_pos (by omega)], gap_ahead o e (by omega)⟩, fun he => by rw [hl, if_neg (by omega)]; rfl, fun k g hk hg => ?_⟩
  have := gaps_behind o e hk hg
  omega

set_option maxRecDepth 100000 in
set_option maxHeartbeats 8000000 in
theorem covers_any (b : Nat) (v : Value) (ps : List (Pc Int)) (o : OkP ps) (w : World) (h : IsMap w b v) (hr : RowP w 0 v ps) :
    Calls Try.prog 10 #[.pointer (some ⟨b, 0, none⟩)] w fun e w' => e = .returned (.bool true) ∧ Below w.heap.size w w' := by
  have hbl := h.lt
  have hSO : OkP (strsP eqv ps) := strs_ok eqv o
  have hge := gapsP_ok hSO
  have hglen : (gapsP (strsP eqv ps)).length ≤ 1114113 := by
    have a := gapsPre_len (strsP eqv ps) 0
    have b := okP_len hSO
    have c : (lastGap (endP 0 (strsP eqv ps))).length ≤ 1 := by unfold lastGap; split <;> simp
    unfold gapsP
    rw [List.length_append]
    omega
  have HSZ := hide (fun V (hV : Below w.heap.size w V) => size_map b v 0 ps o V (h.below hV) (hr.below hV))
  obtain ⟨r0, hr0, hy0, hy1, hy2⟩ := info_parts (show (Try.prog.info? 28).map (fun i => (i.zero, i.size, i.bytes)) = some (some (.agg #[.int .i32 0, .int .i32 0]), 2, 8) by kernel_rfl)
  refine (callsIn_wide (n := 12)).1 ?_
  refine callsIn_of_wp_marks Try.func10 rfl trivial ?_ rfl
  simp only [Try.ntmps10, List.size_toArray, List.length_cons, List.length_nil, Nat.reduceAdd, Nat.reduceSub, Array.replicate_succ, Array.replicate_zero, List.push_toArray, List.append_toArray, List.nil_append, List.cons_append]
  have hF : ∀ f, Fence.wide.fn f := fun _ => trivial
  gi_wp2_with (gi_at_call 26; with_reducible refine CallsIn.mono (callsIn_wide.2 (gaps_in b _)) ?_; rintro e V7 ⟨rfl, rfl⟩)
  obtain ⟨W0, hW0⟩ : ∃ W0, ((((w.alloc (.cells #[.bool false] 4)).alloc (.cells #[.int .i32 0] 21)).alloc (.cells #[.int .i64 0] 3)).alloc (.cells #[.slice none 0 0] 63)).alloc (.cells #[.pointer (some ⟨b, 0, none⟩)] 25) = W0 := ⟨_, rfl⟩
  have hszL : w.heap.size + 5 ≤ W0.heap.size := by rw [← hW0]; simp
  have hszR : W0.heap.size ≤ w.heap.size + 5 := by rw [← hW0]; simp
  have hB0 : Below w.heap.size w W0 := by rw [← hW0]; go_grown
  have b0 : W0.heap[w.heap.size]? = some (.cells #[.bool false] 4 (0, 0)) := by
    rw [← hW0, Below.heap_alloc _ _ _ (by simp only [World.size_alloc]; omega), Below.heap_alloc _ _ _ (by simp only [World.size_alloc]; omega), Below.heap_alloc _ _ _ (by simp only [World.size_alloc]; omega), Below.heap_alloc _ _ _ (by simp only [World.size_alloc]; omega)]
    exact heap_alloc_new w _
  have b1 : W0.heap[w.heap.size + 1]? = some (.cells #[.int .i32 0] 21 (0, 0)) := by
    rw [← hW0, Below.heap_alloc _ _ _ (by simp only [World.size_alloc]; omega), Below.heap_alloc _ _ _ (by simp only [World.size_alloc]; omega), Below.heap_alloc _ _ _ (by simp only [World.size_alloc]; omega)]
    simpa using heap_alloc_new (w.alloc (.cells #[.bool false] 4)) (.cells #[.int .i32 0] 21)
  have b2 : W0.heap[w.heap.size + 1 + 1]? = some (.cells #[.int .i64 0] 3 (0, 0)) := by
    rw [← hW0, Below.heap_alloc _ _ _ (by simp only [World.size_alloc]; omega), Below.heap_alloc _ _ _ (by simp only [World.size_alloc]; omega)]
    simpa using heap_alloc_new ((w.alloc (.cells #[.bool false] 4)).alloc (.cells #[.int .i32 0] 21)) (.cells #[.int .i64 0] 3)
  have b3 : W0.heap[w.heap.size + 1 + 1 + 1]? = some (.cells #[.slice none 0 0] 63 (0, 0)) := by
    rw [← hW0, Below.heap_alloc _ _ _ (by simp only [World.size_alloc]; omega)]
    simpa using heap_alloc_new (((w.alloc (.cells #[.bool false] 4)).alloc (.cells #[.int .i32 0] 21)).alloc (.cells #[.int .i64 0] 3)) (.cells #[.slice none 0 0] 63)
  have b4 : W0.heap[w.heap.size + 1 + 1 + 1 + 1]? = some (.cells #[.pointer (some ⟨b, 0, none⟩)] 25 (0, 0)) := by
    rw [← hW0]
    simpa using heap_alloc_new ((((w.alloc (.cells #[.bool false] 4)).alloc (.cells #[.int .i32 0] 21)).alloc (.cells #[.int .i64 0] 3)).alloc (.cells #[.slice none 0 0] 63)) (.cells #[.pointer (some ⟨b, 0, none⟩)] 25)
  rw [hW0]
  clear hW0
  have hm0 := h.below hB0
  have hr00 := hr.below hB0
  refine range8B (by omega) (gf := 45) (lb := #[.pointer (some ⟨w.heap.size + 1 + 1 + 1 + 1, 0, none⟩)]) rfl (enters_of Try.func45 (by kernel_rfl) rfl)
    (gaps_gives ps o _ (w.heap.size + 1 + 1 + 1 + 1) b v (by omega) W0 b4 hm0 hr00) (Below.refl _ _) (fun _ => rfl)
    (fun m z pre V => BoxG V (w.heap.size + 1 + 1 + 1) (W0.heap.size + 2 + m) z pre ∧ V.heap[w.heap.size]? = some (.cells #[.bool false] 4 (0, 0)) ∧ V.heap[w.heap.size + 1]? = some (.cells #[.int .i32 0] 21 (0, 0)) ∧ V.heap[w.heap.size + 1 + 1]? = some (.cells #[.int .i64 0] 3 (0, 0)) ∧ Below w.heap.size w V ∧ W0.heap.size ≤ V.heap.size ∧ W0.heap.size ≤ z)
    (fun c pre V => False)
    (fun m z => (own_boxG _ _ _ _).and ((own_block _ _ _ rfl).and ((own_block _ _ _ rfl).and ((own_block _ _ _ rfl).and ((ownFrom_below (Nat.le_refl _) (by omega)).and ((own_size _ _).and (own_pure _ (fun _ => W0.heap.size ≤ z))))))))
    (fun c => own_pure _ _)
    (fun m z hm s V k o v q1 q2 h => by
      obtain ⟨⟨vs, h1, h2, h3⟩, h4, h5, h6, h7, h8, h9⟩ := h
      have hk : ∀ j, j ≠ k → (V.setCell ⟨k, o, none⟩ v).heap[j]? = V.heap[j]? := fun j hj => Below.heap_setCell _ _ _ _ hj
      exact ⟨⟨vs, (hk _ (by omega)).trans h1, rowG_kept h2 (fun g cur hh hge _ => hk g (by omega)), h3⟩, (hk _ (by omega)).trans h4, (hk _ (by omega)).trans h5, (hk _ (by omega)).trans h6, h7.setCell (p := ⟨k, o, none⟩) (by show w.heap.size ≤ k; omega) v, by simpa [World.setCell] using h8, h9⟩)
    (fun m z hz => ⟨⟨_, b3, ⟨rfl, .inl ⟨rfl, rfl⟩⟩, fun g hg => by cases hg⟩, b0, b1, b2, hB0, Nat.le_refl _, hz⟩)
    (fun x => .cells #[.int .i32 x.1, .int .i32 x.2] 28 (0, 0)) (fun _ => rfl) ?fr ?assign ?body ?done ?stop
  case assign =>
    intro l2 x V K hK
    gi_wp2
    generalize hBx : V.heap.size = Bx
    exact hK Bx hBx.symm
  case body =>
    rintro m z l2 pre x Bx V hm2 hl hsz2 ⟨r, hr'⟩ ⟨⟨vs, h1, h2, h3⟩, h4, h5, h6, h7, h8, h9⟩ hx1 hx2 hSp
    have hpl : pre.length + 1 ≤ 1114113 := by have := hSp.length_le; simp at this; omega
    obtain ⟨xl, xh⟩ := x
    simp only at hx1
    have y0 : V.cell? ⟨Bx, 0, none⟩ = some (.int .i32 xl) := by simp [World.cell?, hx1]
    have y1 : V.cell? ⟨Bx, 1, none⟩ = some (.int .i32 xh) := by simp [World.cell?, hx1]
    have jc : V.cell? ⟨w.heap.size + 1 + 1 + 1, 0, none⟩ = some vs := by simp [World.cell?, h1]
    obtain ⟨sa, sn, sc, rfl⟩ : ∃ a n c, vs = .slice a n c := by
      rcases h2.2 with ⟨rfl, _⟩ | ⟨g, cap, cur, rfl, _⟩
      · exact ⟨_, _, _, rfl⟩
      · exact ⟨_, _, _, rfl⟩
    gi_wp2_with (gi_at_builtin; refine wpListIn_append_own _ rfl _ _ 63 rfl (W0.heap.size + 2 + m) 28 r0 (.agg #[.int .i32 0, .int .i32 0]) 2 8 Try.underlying63 hr0 hy0 hy1 hy2 rfl (by decide) _ _ _ rfl (h2.alloc _) ⟨V.heap.size, 0, none⟩ 1 1 [.int .i32 xl, .int .i32 xh] rfl rfl (cell_two_newG _ _ _ _) (by simp [Value.oneCell']) (by unfold maxLen; omega) (by omega) (by simp; omega) ?_; intro v' w7 hown' hgrow _; obtain ⟨g', cap', rfl⟩ := ownsRow_succ hown'; obtain ⟨q5, hbx', ko, hs', hkeep, hos⟩ := boxG_put (gs := pre ++ [(xl, xh)]) h1 h2 (by omega) (by rw [List.length_append, cellsG_append]; exact hown') hgrow; have c5 : w7.cell? ⟨w.heap.size + 1 + 1 + 1, 0, none⟩ = some (.slice sa sn sc) := (by simp [World.cell?, q5]); have f5 : w7.frozen? ⟨w.heap.size + 1 + 1 + 1, 0, none⟩ = false := (by simp [World.frozen?, q5]))
    have l0 := (Array.getElem?_eq_some_iff.1 h4).1
    have nb : ∀ j, j < W0.heap.size → Value.ownBlock (.slice sa sn sc) ≠ some j := fun j hj e => by have := (rowG_far h2 e).1; omega
    refine ⟨ko.from _, ⟨ko.walks, fun k ob hk hc hx => (hkeep k (Array.getElem?_eq_some_iff.1 hx).1 (by rcases hk with hk | hk <;> omega) (fun e => ?_)).trans hx⟩, _, Nat.le_refl _, hbx', (hkeep _ l0 (by omega) (nb _ (by omega))).trans h4, (hkeep _ (Array.getElem?_eq_some_iff.1 h5).1 (by omega) (nb _ (by omega))).trans h5, (hkeep _ (Array.getElem?_eq_some_iff.1 h6).1 (by omega) (nb _ (by omega))).trans h6, ?_, by omega, by omega⟩
    · have e1 := (rowG_far h2 e).1
      have e2 := h3 k e
      rcases hk with hk | hk <;> omega
    · refine ⟨hos.1.trans h7.os, hos.2.1.trans h7.tape, hos.2.2.trans h7.output, Nat.le_trans h7.size (by omega), fun k hk => ?_⟩
      have := h7.size
      exact (hkeep k (by omega) (by omega) (nb _ (by omega))).trans (h7.block k hk)
  case done =>
    rintro D m z xs V hD hS ⟨⟨vs, h1, h2, h3⟩, h4, h5, h6, h7, h8, h9⟩ hK
    subst hS
    obtain ⟨ga, gc, rfl, hgc⟩ := boxG_form h2
    have hfar : ∀ g, Value.ownBlock (.slice ga (gapsP (strsP eqv ps)).length gc) = some g → W0.heap.size + 2 + m ≤ g ∧ g < V.heap.size := fun g hg => by
      obtain ⟨e1, cur, e2⟩ := rowG_far h2 hg
      exact ⟨e1, (Array.getElem?_eq_some_iff.1 e2).1⟩
    clear h2 h3 b0 b1 b2 b3 b4 hm0 hr00 hge
    obtain ⟨ng, hng⟩ : ∃ ng, (gapsP (strsP eqv ps)).length = ng := ⟨_, rfl⟩
    rw [hng] at h1 hfar hglen
    have HNG := hide hng
    clear hng
    have h7s := h7.size
    simp only [Exit.inBlock]
    gi_wp2_with (gi_at_call 27; with_reducible refine CallsIn.mono (callsIn_wide.2 (all_in b _)) ?_; rintro e V7 ⟨rfl, rfl⟩)
    obtain ⟨W1, hW1⟩ : ∃ W1, (V.alloc (.cells #[.int .i64 0] 3)).alloc (.cells #[.pointer (some ⟨b, 0, none⟩)] 25) = W1 := ⟨_, rfl⟩
    have hs1L : V.heap.size + 2 ≤ W1.heap.size := by rw [← hW1]; simp
    have hs1R : W1.heap.size ≤ V.heap.size + 2 := by rw [← hW1]; simp
    have hb1 : Below V.heap.size V W1 := by rw [← hW1]; exact ((Below.refl _ V).alloc (Nat.le_refl _) _).alloc (by simp) _
    have p1 : W1.heap[V.heap.size]? = some (.cells #[.int .i64 0] 3 (0, 0)) := by
      rw [← hW1, Below.heap_alloc _ _ _ (by simp)]
      exact heap_alloc_new V _
    have p2 : W1.heap[V.heap.size + 1]? = some (.cells #[.pointer (some ⟨b, 0, none⟩)] 25 (0, 0)) := by
      rw [← hW1]
      simpa using heap_alloc_new (V.alloc (.cells #[.int .i64 0] 3)) (.cells #[.pointer (some ⟨b, 0, none⟩)] 25)
    rw [hW1]
    clear hW1
    have hbW1 := h7.trans (hb1.mono h7.size)
    have k1 := (hb1.block _ (Array.getElem?_eq_some_iff.1 h1).1).trans h1
    have k4 := (hb1.block _ (Array.getElem?_eq_some_iff.1 h4).1).trans h4
    have k5 := (hb1.block _ (Array.getElem?_eq_some_iff.1 h5).1).trans h5
    have k6 := (hb1.block _ (Array.getElem?_eq_some_iff.1 h6).1).trans h6
    have kD := (hb1.block _ (Array.getElem?_eq_some_iff.1 hK).1).trans hK
    have hDV := (Array.getElem?_eq_some_iff.1 hK).1
    have hgc1 : ∀ (j : Nat) (g : Int × Int), (gapsP (strsP eqv ps))[j]? = some g → ∃ gb, ga = some ⟨gb, 0, none⟩ ∧ W0.heap.size + 2 + m ≤ gb ∧ gb < V.heap.size ∧ W1.cell? ⟨gb, j * 2, none⟩ = some (.int .i32 g.1) ∧ W1.cell? ⟨gb, j * 2 + 1, none⟩ = some (.int .i32 g.2) := by
      intro j g hj
      obtain ⟨gb, e1, e2, e3, e4⟩ := hgc j g hj
      rw [unhide HNG] at e2
      have e5 := hfar gb e2
      exact ⟨gb, e1, e5.1, e5.2, (hb1.cell (by exact e5.2)).trans e3, (hb1.cell (by exact e5.2)).trans e4⟩
    clear hgc hfar h1 h4 h5 h6 hK hb1
    obtain ⟨kb, hkb⟩ : ∃ kb, V.heap.size = kb := ⟨_, rfl⟩
    rw [hkb] at p1 p2 hgc1 hs1L hs1R hDV h8 ⊢
    obtain ⟨ss, hss⟩ : ∃ ss, strsP eqv ps = ss := ⟨_, rfl⟩
    have HGV := all_gives ps o 11 (kb + 1) b v (by omega) W1 p2 (h.below hbW1) (hr.below hbW1)
    have hszS : sizeP (strsP eqv ps) = sizeP ps := strs_size eqv ps
    rw [hss] at HGV hSO hgc1 HNG hszS
    clear h hr hkb h7
    refine range4B (by omega) (gf := 46) (lb := #[.pointer (some ⟨kb + 1, 0, none⟩)]) rfl (enters_of Try.func46 (by kernel_rfl) rfl)
      HGV (Below.refl _ _) (fun _ => rfl)
      (fun pre Y => Y.heap[w.heap.size + 1]? = some (.cells #[.int .i32 (endP 0 pre)] 21 (0, 0)) ∧ Y.heap[kb]? = some (.cells #[.int .i64 ((gapsPre 0 pre).length : Nat)] 3 (0, 0)) ∧ Y.heap[w.heap.size + 1 + 1]? = some (.cells #[.int .i64 (sizeP pre)] 3 (0, 0)) ∧ (W1.heap.size ≤ Y.heap.size ∧ ∀ k, k < W1.heap.size → ¬ (k = w.heap.size + 1 ∨ k = w.heap.size + 1 + 1 ∨ k = kb) → Y.heap[k]? = W1.heap[k]?) ∧ Below w.heap.size w Y)
      (fun c pre V => False)
      ((own_blockF _ _ (fun pre => .cells #[.int .i32 (endP 0 pre)] 21 (0, 0)) (fun _ => rfl)).and ((own_blockF _ _ (fun pre => .cells #[.int .i64 ((gapsPre 0 pre).length : Nat)] 3 (0, 0)) (fun _ => rfl)).and ((own_blockF _ _ (fun pre => .cells #[.int .i64 (sizeP pre)] 3 (0, 0)) (fun _ => rfl)).and ((own_lowS W1 _).and (ownFrom_below (Nat.le_refl _) (by omega))))))
      (fun c => own_pure _ _) (CalmR.none _ _ _) ⟨k5, p1, k6, ⟨Nat.le_refl _, fun _ _ _ => rfl⟩, hbW1⟩
      (fun x => .cells #[.int .i32 x.lo, .int .i32 x.hi] 28 (0, 0)) (fun _ => rfl) ?fr2 ?assign2 ?body2 ?done2 ?stop2
    case assign2 =>
      intro l2 x Y K hK
      gi_wp2
      generalize hBx : Y.heap.size = Bx
      exact hK Bx hBx.symm
    case body2 =>
      rintro l2 pre x Bx Y hl hsz2 ⟨r, hr'⟩ ⟨e1, e2, e3, ⟨e4, e5⟩, e6⟩ hx1 hx2 hSp
      obtain ⟨c1, c2, c3, c4, c5, c6, c7, c8, c9, c10, c11, c12, c13⟩ := cover_step hSO hSp
      obtain ⟨e, he⟩ : ∃ e, endP 0 pre = e := ⟨_, rfl⟩
      obtain ⟨sp, hsp⟩ : ∃ s, sizeP pre = s := ⟨_, rfl⟩
      obtain ⟨kk, hkk⟩ : ∃ k, (gapsPre 0 pre).length = k := ⟨_, rfl⟩
      obtain ⟨k2, hk2⟩ : ∃ k, (gapsPre 0 (pre ++ [x])).length = k := ⟨_, rfl⟩
      rw [he] at c4 c5 c11 c12 e1
      rw [hsp] at c6 c7 c9 e3
      rw [hkk] at c11 c12 e2
      rw [hk2] at c11 c12 c13
      have HEND := hide (show endP 0 (pre ++ [x]) = x.hi + 1 ∧ (gapsPre 0 (pre ++ [x])).length = k2 ∧ sizeP (pre ++ [x]) = sp + (x.hi - x.lo + 1) from ⟨c8, hk2, c9⟩)
      rw [c9] at c10
      clear he hsp hkk hk2 c8 c9
      obtain ⟨xl, xh, xv⟩ := x
      simp only at *
      have ltx := (Array.getElem?_eq_some_iff.1 hx1).1
      have HX1 := hide hx1
      have HE5 := hide e5
      have HE6 := hide e6
      have HE3 := hide e3
      have HC11 := hide c11
      have HC13 := hide c13
      have HK1 := hide k1
      have HGC := hide hgc1
      clear hx1 e5 e6 e3 c13
      gi_wp2
      gi_loopw [20] (fun _ wr => ∃ (at' : Int) (k : Nat), wr.heap[w.heap.size + 1]? = some (.cells #[.int .i32 at'] 21 (0, 0)) ∧ wr.heap[kb]? = some (.cells #[.int .i64 k] 3 (0, 0)) ∧ Chg (fun j => j = w.heap.size + 1 ∨ j = kb) Y wr ∧ ((at' = e ∧ k = kk ∧ e ≠ xl) ∨ (at' = xl ∧ k = k2))) (fun _ wr => match wr.cell? ⟨w.heap.size + 1, 0, none⟩ with | some u => if RowKit.intOf u = xl then 0 else 1 | none => 0)
      case atStart =>
        refine ⟨e, kk, e1, e2, ⟨rfl, rfl, rfl, Nat.le_refl _, fun _ _ _ => rfl⟩, ?_⟩
        by_cases hne : e = xl
        · exact .inr ⟨hne, (c12 hne).symm⟩
        · exact .inl ⟨rfl, rfl, hne⟩
      case round =>
        obtain ⟨at', k, f1, f2, hch, hst⟩ := hrel
        have hchs := hch.size
        have keep : ∀ j, j < W1.heap.size → j ≠ w.heap.size + 1 → j ≠ w.heap.size + 1 + 1 → j ≠ kb → wr.heap[j]? = W1.heap[j]? := fun j h0 h1 h2 h3 => (hch.block j (by omega) (fun e => by omega)).trans (unhide HE5 j h0 (fun e => by omega))
        have g3 := (keep (w.heap.size + 1 + 1 + 1) (by omega) (by omega) (by omega) (by omega)).trans (unhide HK1)
        have gx := (hch.block Bx ltx (fun e => by omega)).trans (unhide HX1)
        have gn := (hch.block (w.heap.size + 1 + 1) (Array.getElem?_eq_some_iff.1 (unhide HE3)).1 (fun e => by omega)).trans (unhide HE3)
        have HG := hide (⟨f1, f2, g3, gx, gn, keep, hch⟩ : wr.heap[w.heap.size + 1]? = some (.cells #[.int .i32 at'] 21 (0, 0)) ∧ wr.heap[kb]? = some (.cells #[.int .i64 k] 3 (0, 0)) ∧ wr.heap[w.heap.size + 1 + 1 + 1]? = _ ∧ wr.heap[Bx]? = _ ∧ wr.heap[w.heap.size + 1 + 1]? = _ ∧ (∀ j, j < W1.heap.size → j ≠ w.heap.size + 1 → j ≠ w.heap.size + 1 + 1 → j ≠ kb → wr.heap[j]? = W1.heap[j]?) ∧ Chg (fun j => j = w.heap.size + 1 ∨ j = kb) Y wr)
        have a1 := (box_cell f1).1
        have a2 := (box_cell f2).1
        have a3 := (box_cell g3).1
        clear f1 f2 g3 gx gn hch
        rcases hst with ⟨rfl, rfl, hne⟩ | ⟨rfl, rfl⟩
        · obtain ⟨hk2', hg⟩ := unhide HC11 hne
          obtain ⟨gb, rfl, u1, u2, u3, u4⟩ := unhide HGC k _ hg
          have hkn : k < ng := by rw [← unhide HNG]; exact (List.getElem?_eq_some_iff.1 hg).1
          have kg := keep gb (by omega) (by omega) (by omega) (by omega)
          have a4 : wr.cell? ⟨gb, k * 2, none⟩ = some (.int .i32 at') := by
            have : wr.cell? ⟨gb, k * 2, none⟩ = W1.cell? ⟨gb, k * 2, none⟩ := by simp only [World.cell?, kg]
            exact this.trans u3
          have a5 : wr.cell? ⟨gb, k * 2 + 1, none⟩ = some (.int .i32 (xl - 1)) := by
            have : wr.cell? ⟨gb, k * 2 + 1, none⟩ = W1.cell? ⟨gb, k * 2 + 1, none⟩ := by simp only [World.cell?, kg]
            exact this.trans u4
          have hlt' : (k : Int) < (ng : Int) := by omega
          have d0 : decide ((k : Int) < (ng : Int)) = true := decide_eq_true hlt'
          have d1 : decide (xl - 1 < at') = false := decide_eq_false (by omega)
          have qe : (at' == at') = true := by simp
          have qw : IntKind.i32.wrap (xl - 1 + 1) = xl := by rw [IntKind.wrap_i32]; omega
          have qk : IntKind.i64.wrap ((k : Int) + 1) = (k : Int) + 1 := by rw [IntKind.wrap_i64]; omega
          have HK2' := hide hk2'
          have HNE := hide hne
          clear keep kg u3 u4 hg hk2' hne
          gi_wp2_with fail
          refine MixR.start (by kernel_rfl) (by kernel_rfl) (fun ⟨_, _, h⟩ => h) ?_
          refine MixW.last (C := fun w' => ∃ n, w' = wr.drewN n) 0 13 (by decide) (by kernel_rfl) (by kernel_rfl) ⟨1, rfl⟩ ?_
          simp only [List.drop_zero]
          repeat (go_big_quiet_step (fail))
          refine wpQuiet_nil ?_
          rintro _ ⟨nq, rfl⟩
          try simp only [Exit.then]
          obtain ⟨WQ, hWQ⟩ : ∃ WQ, wr.drewN nq = WQ := ⟨_, rfl⟩
          have A1 : WQ.cell? ⟨w.heap.size + 1, 0, none⟩ = some (.int .i32 at') := by rw [← hWQ]; exact a1
          have A2 : WQ.cell? ⟨kb, 0, none⟩ = some (.int .i64 k) := by rw [← hWQ]; exact a2
          have A3 : WQ.cell? ⟨w.heap.size + 1 + 1 + 1, 0, none⟩ = some (.slice (some ⟨gb, 0, none⟩) ng gc) := by rw [← hWQ]; exact a3
          have A4 : WQ.cell? ⟨gb, k * 2, none⟩ = some (.int .i32 at') := by rw [← hWQ]; exact a4
          have A5 : WQ.cell? ⟨gb, k * 2 + 1, none⟩ = some (.int .i32 (xl - 1)) := by rw [← hWQ]; exact a5
          rw [hWQ]
          have HWQ := hide hWQ
          clear hWQ a1 a2 a3 a4 a5
          gi_wp2_with fail
          refine MixR.start (by kernel_rfl) (by kernel_rfl) (fun ⟨_, _, h⟩ => h) ?_
          refine MixW.last (C := fun w' => ∃ n, w' = WQ.drewN n) 0 11 (by decide) (by kernel_rfl) (by kernel_rfl) ⟨1, rfl⟩ ?_
          simp only [List.drop_zero]
          repeat (go_big_quiet_step (fail))
          refine wpQuiet_nil ?_
          rintro _ ⟨nq, rfl⟩
          try simp only [Exit.then]
          obtain ⟨WZ, hWZ⟩ : ∃ WZ, WQ.drewN nq = WZ := ⟨_, rfl⟩
          obtain ⟨F1, F2, F3, FX, FN, FK, FC⟩ := unhide HG
          have hWr : WZ.heap = wr.heap ∧ WZ.os = wr.os ∧ WZ.tape = wr.tape ∧ WZ.output = wr.output := by rw [← hWZ, ← unhide HWQ]; exact ⟨rfl, rfl, rfl, rfl⟩
          have A3 : WZ.cell? ⟨w.heap.size + 1 + 1 + 1, 0, none⟩ = some (.slice (some ⟨gb, 0, none⟩) ng gc) := by rw [← hWZ]; exact A3
          have A5 : WZ.cell? ⟨gb, k * 2 + 1, none⟩ = some (.int .i32 (xl - 1)) := by rw [← hWZ]; exact A5
          have G1 : WZ.heap[w.heap.size + 1]? = some (.cells #[.int .i32 at'] 21 (0, 0)) := by rw [hWr.1]; exact F1
          have G2 : WZ.heap[kb]? = some (.cells #[.int .i64 k] 3 (0, 0)) := by rw [hWr.1]; exact F2
          have A1 := (box_cell G1).1
          have B1 := (box_cell G1).2
          have A2z := (box_cell G2).1
          have G2' : (WZ.setCell ⟨w.heap.size + 1, 0, none⟩ (.int .i32 xl)).heap[kb]? = some (.cells #[.int .i64 k] 3 (0, 0)) := (Below.heap_setCell _ _ _ _ (by show kb ≠ w.heap.size + 1; omega)).trans G2
          have A2 := (box_cell G2').1
          have B2 := (box_cell G2').2
          rw [hWZ]
          have HWR := hide hWr
          have HG2 := hide G2'
          have HG1 := hide G1
          have HFC := hide FC
          clear hWZ F1 F2 F3 FX FN FK FC G1 G2 G2' hWr
          gi_wp2
          go_roundw
          case rel =>
            have hWr := unhide HWR
            have FC := unhide HFC
            refine ⟨xl, k + 1, (Below.heap_setCell _ _ _ _ (by show w.heap.size + 1 ≠ kb; omega)).trans (box_set (unhide HG1) _), by simpa using box_set (unhide HG2) (.int .i64 ((k : Int) + 1)), ⟨hWr.2.1.trans FC.os, hWr.2.2.1.trans FC.tape, hWr.2.2.2.trans FC.output, by simpa [World.setCell, hWr.1] using FC.size, fun j hj hne => ?_⟩, .inr ⟨rfl, (unhide HK2').symm⟩⟩
            rw [Below.heap_setCell _ _ _ _ (by show j ≠ kb; omega), Below.heap_setCell _ _ _ _ (by show j ≠ w.heap.size + 1; omega), hWr.1]
            exact FC.block j hj hne
          case measure =>
            have m1 := (box_cell (unhide HG).1).1
            have m2 : ((WZ.setCell ⟨w.heap.size + 1, 0, none⟩ (.int .i32 xl)).setCell ⟨kb, 0, none⟩ (.int .i64 ((k : Int) + 1))).cell? ⟨w.heap.size + 1, 0, none⟩ = some (.int .i32 xl) := (box_cell ((Below.heap_setCell _ _ _ _ (by show w.heap.size + 1 ≠ kb; omega)).trans (box_set (unhide HG1) _))).1
            rw [m1, m2]
            have := unhide HNE
            simp [RowKit.intOf, this]
        · have qe : (∃ gb lo, ga = some ⟨gb, 0, none⟩ ∧ (k : Int) < (ng : Int) ∧ wr.cell? ⟨gb, k * 2, none⟩ = some (.int .i32 lo) ∧ (lo == at') = false) ∨ ¬ (k : Int) < (ng : Int) := by
            by_cases hlt : k < ng
            · obtain ⟨g, hg⟩ : ∃ g, (gapsP ss)[k]? = some g := ⟨_, List.getElem?_eq_getElem (by rw [unhide HNG]; exact hlt)⟩
              obtain ⟨gb, rfl, u1, u2, u3, u4⟩ := unhide HGC k g hg
              have kg := keep gb (by omega) (by omega) (by omega) (by omega)
              have hb := unhide HC13 k g (Nat.le_refl _) hg
              refine .inl ⟨gb, g.1, rfl, by omega, ?_, by rw [beq_eq_false_iff_ne]; omega⟩
              have : wr.cell? ⟨gb, k * 2, none⟩ = W1.cell? ⟨gb, k * 2, none⟩ := by simp only [World.cell?, kg]
              exact this.trans u3
            · exact .inr (by omega)
          have hlen : IntKind.i64.wrap (xh - at') = xh - at' := by rw [IntKind.wrap_i64]; omega
          have q1 : IntKind.i32.wrap (xh + 1) = xh + 1 := by rw [IntKind.wrap_i32]; omega
          have q2 : IntKind.i32.wrap (xh - at') = xh - at' := by rw [IntKind.wrap_i32]; omega
          have q3 : IntKind.i64.wrap (sp + (xh - at')) = sp + (xh - at') := by rw [IntKind.wrap_i64]; omega
          have q4 : IntKind.i64.wrap (sp + (xh - at') + 1) = sp + (xh - at') + 1 := by rw [IntKind.wrap_i64]; omega
          have d0 : decide (xh < at') = false := decide_eq_false (by omega)
          have qx : (at' != at') = false := by simp
          have fin : ∀ WQ : World, WQ.heap = wr.heap → WQ.os = wr.os → WQ.tape = wr.tape → WQ.output = wr.output →
              WQ.cell? ⟨Bx, 0, none⟩ = some (.int .i32 at') ∧ WQ.cell? ⟨Bx, 1, none⟩ = some (.int .i32 xh) ∧ WQ.cell? ⟨w.heap.size + 1, 0, none⟩ = some (.int .i32 at') ∧ WQ.frozen? ⟨w.heap.size + 1, 0, none⟩ = false ∧
              (WQ.setCell ⟨w.heap.size + 1, 0, none⟩ (.int .i32 (xh + 1))).cell? ⟨Bx, 0, none⟩ = some (.int .i32 at') ∧ (WQ.setCell ⟨w.heap.size + 1, 0, none⟩ (.int .i32 (xh + 1))).cell? ⟨Bx, 1, none⟩ = some (.int .i32 xh) ∧
              (WQ.setCell ⟨w.heap.size + 1, 0, none⟩ (.int .i32 (xh + 1))).cell? ⟨w.heap.size + 1 + 1, 0, none⟩ = some (.int .i64 sp) ∧ (WQ.setCell ⟨w.heap.size + 1, 0, none⟩ (.int .i32 (xh + 1))).frozen? ⟨w.heap.size + 1 + 1, 0, none⟩ = false := by
            intro WQ hh ho ht hp
            obtain ⟨F1, F2, F3, FX, FN, FK, FC⟩ := unhide HG
            rw [← hh] at F1 FX FN
            have GX := (Below.heap_setCell WQ ⟨w.heap.size + 1, 0, none⟩ (.int .i32 (xh + 1)) Bx (by show Bx ≠ w.heap.size + 1; omega)).trans FX
            have GN := (Below.heap_setCell WQ ⟨w.heap.size + 1, 0, none⟩ (.int .i32 (xh + 1)) (w.heap.size + 1 + 1) (by show w.heap.size + 1 + 1 ≠ w.heap.size + 1; omega)).trans FN
            exact ⟨by simp [World.cell?, FX], by simp [World.cell?, FX], (box_cell F1).1, (box_cell F1).2, by simp only [World.cell?, GX]; rfl, by simp only [World.cell?, GX]; rfl, (box_cell GN).1, (box_cell GN).2⟩
          have fin2 : ∀ WQ : World, WQ.heap = wr.heap → WQ.os = wr.os → WQ.tape = wr.tape → WQ.output = wr.output → ∀ X, X = (WQ.setCell ⟨w.heap.size + 1, 0, none⟩ (.int .i32 (xh + 1))).setCell ⟨w.heap.size + 1 + 1, 0, none⟩ (.int .i64 (sp + (xh - at') + 1)) →
              KeepsFrom W1.heap.size Y X ∧ KpR T4 (fun _ => False) (W1.heap.size + 2) Y X ∧ X.heap[w.heap.size + 1]? = some (.cells #[.int .i32 (xh + 1)] 21 (0, 0)) ∧ X.heap[kb]? = some (.cells #[.int .i64 k] 3 (0, 0)) ∧ X.heap[w.heap.size + 1 + 1]? = some (.cells #[.int .i64 (sp + (xh - at') + 1)] 3 (0, 0)) ∧ (W1.heap.size ≤ X.heap.size ∧ ∀ j, j < W1.heap.size → ¬ (j = w.heap.size + 1 ∨ j = w.heap.size + 1 + 1 ∨ j = kb) → X.heap[j]? = W1.heap[j]?) ∧ Below w.heap.size w X := by
            intro WQ hh ho ht hp X hX
            obtain ⟨F1, F2, F3, FX, FN, FK, FC⟩ := unhide HG
            have hs : X.heap.size = wr.heap.size := by rw [hX]; simp [World.setCell, hh]
            have other : ∀ j, j ≠ w.heap.size + 1 → j ≠ w.heap.size + 1 + 1 → X.heap[j]? = wr.heap[j]? := fun j h1 h2 => by
              rw [hX, Below.heap_setCell _ _ _ _ (by show j ≠ w.heap.size + 1 + 1; omega), Below.heap_setCell _ _ _ _ (by show j ≠ w.heap.size + 1; omega), hh]
            have y1 := (e1 : Y.heap[w.heap.size + 1]? = _)
            have y2 := (e2 : Y.heap[kb]? = _)
            have y3 := unhide HE3
            have ko : KeepsOthers Y X := ⟨by omega, fun j ob hj hc => by
              by_cases s1 : j = w.heap.size + 1
              · subst s1; rw [y1] at hj; cases hj; cases hc
              · by_cases s2 : j = w.heap.size + 1 + 1
                · subst s2; rw [y3] at hj; cases hj; cases hc
                · by_cases s3 : j = kb
                  · subst s3; rw [y2] at hj; cases hj; cases hc
                  · exact (other j s1 s2).trans ((FC.block j (Array.getElem?_eq_some_iff.1 hj).1 (fun e => by omega)).trans hj)⟩
            have n1 : (WQ.setCell ⟨w.heap.size + 1, 0, none⟩ (.int .i32 (xh + 1))).heap[w.heap.size + 1 + 1]? = some (.cells #[.int .i64 sp] 3 (0, 0)) := (Below.heap_setCell _ _ _ _ (by show w.heap.size + 1 + 1 ≠ w.heap.size + 1; omega)).trans (by rw [hh]; exact FN)
            refine ⟨ko.from _, ⟨ko.walks, fun j ob hj _ hx => ?_⟩, ?_, ?_, ?_, ⟨by omega, fun j hj hn => ?_⟩, ?_⟩
            · rcases hj with hj | hj
              · exact (other j (by omega) (by omega)).trans ((FC.block j (Array.getElem?_eq_some_iff.1 hx).1 (fun e => by omega)).trans hx)
              · exact hj.elim
            · rw [hX]
              exact (Below.heap_setCell _ _ _ _ (by show w.heap.size + 1 ≠ w.heap.size + 1 + 1; omega)).trans (box_set (by rw [hh]; exact F1) _)
            · exact (other kb (by omega) (by omega)).trans F2
            · rw [hX]
              exact box_set n1 _
            · exact (other j (by omega) (by omega)).trans (FK j hj (by omega) (by omega) (by omega))
            · have hb6 := unhide HE6
              have hbs := hb6.size
              exact ⟨by rw [hX]; exact ho.trans (FC.os.trans hb6.os), by rw [hX]; exact ht.trans (FC.tape.trans hb6.tape), by rw [hX]; exact hp.trans (FC.output.trans hb6.output), by omega, fun j hj => (other j (by omega) (by omega)).trans ((FC.block j (by omega) (fun e => by omega)).trans (hb6.block j hj))⟩
          have HFIN := hide fin
          have HFIN2 := hide fin2
          clear fin fin2 keep
          rcases qe with ⟨gb, lo, rfl, hlt', a4, qe⟩ | hlt'
          · gi_wp2_with fail
            refine MixR.start (by kernel_rfl) (by kernel_rfl) (fun ⟨_, _, h⟩ => h) ?_
            refine MixW.last (C := fun w' => ∃ n, w' = wr.drewN n) 0 13 (by decide) (by kernel_rfl) (by kernel_rfl) ⟨1, rfl⟩ ?_
            simp only [List.drop_zero]
            repeat (go_big_quiet_step (fail))
            refine wpQuiet_nil ?_
            rintro _ ⟨nq, rfl⟩
            try simp only [Exit.then]
            obtain ⟨WQ, hWQ⟩ : ∃ WQ, wr.drewN nq = WQ := ⟨_, rfl⟩
            obtain ⟨A1, A2, A3, A4, A5, A6, A7, A8⟩ := unhide HFIN WQ (by rw [← hWQ]; rfl) (by rw [← hWQ]; rfl) (by rw [← hWQ]; rfl) (by rw [← hWQ]; rfl)
            have HF2 := hide (unhide HFIN2 WQ (by rw [← hWQ]; rfl) (by rw [← hWQ]; rfl) (by rw [← hWQ]; rfl) (by rw [← hWQ]; rfl))
            rw [hWQ]
            clear hWQ a1 a2 a3 a4
            gi_wp2
            obtain ⟨z1, z2, z3⟩ := unhide HEND
            obtain ⟨t1, t2, t3, t4, t5, t6, t7⟩ := unhide HF2 _ rfl
            refine ⟨t1, t2, by rw [z1]; exact t3, by rw [z2]; exact t4, ?_, t6, t7⟩
            rw [z3, show sp + (xh - at' + 1) = sp + (xh - at') + 1 by omega]
            exact t5
          · have d2 : decide (k < ng) = false := decide_eq_false (by omega)
            clear hlt'
            gi_wp2_with fail
            refine MixR.start (by kernel_rfl) (by kernel_rfl) (fun ⟨_, _, h⟩ => h) ?_
            refine MixW.last (C := fun w' => ∃ n, w' = wr.drewN n) 0 13 (by decide) (by kernel_rfl) (by kernel_rfl) ⟨1, rfl⟩ ?_
            simp only [List.drop_zero]
            repeat (go_big_quiet_step (fail))
            refine wpQuiet_nil ?_
            rintro _ ⟨nq, rfl⟩
            try simp only [Exit.then]
            obtain ⟨WQ, hWQ⟩ : ∃ WQ, wr.drewN nq = WQ := ⟨_, rfl⟩
            obtain ⟨A1, A2, A3, A4, A5, A6, A7, A8⟩ := unhide HFIN WQ (by rw [← hWQ]; rfl) (by rw [← hWQ]; rfl) (by rw [← hWQ]; rfl) (by rw [← hWQ]; rfl)
            have HF2 := hide (unhide HFIN2 WQ (by rw [← hWQ]; rfl) (by rw [← hWQ]; rfl) (by rw [← hWQ]; rfl) (by rw [← hWQ]; rfl))
            rw [hWQ]
            clear hWQ a1 a2 a3
            gi_wp2
            obtain ⟨z1, z2, z3⟩ := unhide HEND
            obtain ⟨t1, t2, t3, t4, t5, t6, t7⟩ := unhide HF2 _ rfl
            refine ⟨t1, t2, by rw [z1]; exact t3, by rw [z2]; exact t4, ?_, t6, t7⟩
            rw [z3, show sp + (xh - at' + 1) = sp + (xh - at') + 1 by omega]
            exact t5
    case done2 =>
      rintro D2 ys Y hD2 hS2 ⟨e1, e2, e3, ⟨e4, e5⟩, e6⟩ hK2
      subst hS2
      have hEm := endP_max hSO 0 (by decide) (by decide)
      have hl := gaps_len ys
      have hgl := @gap_last _ ys
      rw [unhide HNG] at hl
      obtain ⟨E, hE⟩ : ∃ E, endP 0 ys = E := ⟨_, rfl⟩
      obtain ⟨kk, hkk⟩ : ∃ k, (gapsPre 0 ys).length = k := ⟨_, rfl⟩
      obtain ⟨sz, hsz'⟩ : ∃ z, sizeP ys = z := ⟨_, rfl⟩
      rw [hE] at hEm hl hgl e1
      rw [hkk] at hl hgl e2
      rw [hsz'] at e3 hszS
      rw [← hszS] at HSZ
      have g3 := (e5 (w.heap.size + 1 + 1 + 1) (by omega) (by omega)).trans k1
      have g0 := (e5 w.heap.size (by omega) (by omega)).trans k4
      have gD := (e5 D (by omega) (by omega)).trans kD
      have a1 := (box_cell e1).1
      have a2 := (box_cell e2).1
      have a3 := (box_cell g3).1
      have a4 := (box_cell e3).1
      have a0 := (box_cell g0).1
      have f0 := (box_cell g0).2
      clear hE hkk hsz' hszS HGV
      by_cases hle : E ≤ 1114111
      · obtain ⟨gb, rfl, u1, u2, u3, u4⟩ := hgc1 kk _ (hgl hle)
        have kg := e5 gb (by omega) (by omega)
        have a5 : Y.cell? ⟨gb, kk * 2, none⟩ = some (.int .i32 E) := by
          have : Y.cell? ⟨gb, kk * 2, none⟩ = W1.cell? ⟨gb, kk * 2, none⟩ := by simp only [World.cell?, kg]
          exact this.trans u3
        have a6 : Y.cell? ⟨gb, kk * 2 + 1, none⟩ = some (.int .i32 1114111) := by
          have : Y.cell? ⟨gb, kk * 2 + 1, none⟩ = W1.cell? ⟨gb, kk * 2 + 1, none⟩ := by simp only [World.cell?, kg]
          exact this.trans u4
        rw [if_pos hle] at hl
        have hlt' : (kk : Int) < (ng : Int) := by omega
        have qE : (E != E) = false := by simp
        have qk : IntKind.i64.wrap ((kk : Int) + 1) = (ng : Int) := by rw [IntKind.wrap_i64]; omega
        have HL := hide hl
        have HLE := hide hle
        have HU := hide u1
        clear hl hle hgl hEm u1 u2 u3 u4 kg hgc1
        gi_wp2_with fail
        refine wpIn_wide.2 ?_
        go_quiet (fail)
        obtain ⟨WQ, hWQ⟩ : ∃ WQ, Y.drewN nq = WQ := ⟨_, rfl⟩
        have hq : WQ.heap = Y.heap := by rw [← hWQ]; rfl
        have hqs : WQ.os = Y.os ∧ WQ.tape = Y.tape ∧ WQ.output = Y.output := by rw [← hWQ]; exact ⟨rfl, rfl, rfl⟩
        rw [hWQ]
        rw [← hq] at e1 e2 e3 g3 g0 gD hK2
        have A3 := (box_cell g3).1
        have A2 := (box_cell e2).1
        have A6 : WQ.cell? ⟨gb, kk * 2 + 1, none⟩ = some (.int .i32 1114111) := by rw [← hWQ]; exact a6
        have B1 := (box_cell e1).1
        have C1 := (box_cell e1).2
        have e2' : (WQ.setCell ⟨w.heap.size + 1, 0, none⟩ (.int .i32 1114112)).heap[kb]? = some (.cells #[.int .i64 (kk : Nat)] 3 (0, 0)) := (Below.heap_setCell _ _ _ _ (by show kb ≠ w.heap.size + 1; omega)).trans e2
        have A2' := (box_cell e2').1
        have C2' := (box_cell e2').2
        have HE := hide (⟨e1, e2', e3, g3, g0, gD, hK2, e6, hq, hqs⟩ : _ ∧ _ ∧ _ ∧ _ ∧ _ ∧ _ ∧ _ ∧ _ ∧ _ ∧ _)
        clear hWQ a0 f0 a1 a2 a3 a4 a5 a6 e1 e2 e2' e3 g3 g0 gD hK2 e6 hq hqs e4 e5
        gi_wp2
        obtain ⟨e1, e2', e3, g3, g0, gD, hK2, e6, hq, hqs⟩ := unhide HE
        obtain ⟨Z, hZ⟩ : ∃ Z, (WQ.setCell ⟨w.heap.size + 1, 0, none⟩ (.int .i32 1114112)).setCell ⟨kb, 0, none⟩ (.int .i64 (ng : Nat)) = Z := ⟨_, rfl⟩
        have oth : ∀ j, j ≠ w.heap.size + 1 → j ≠ kb → Z.heap[j]? = WQ.heap[j]? := fun j n1 n2 => by
          rw [← hZ, Below.heap_setCell _ _ _ _ (by show j ≠ kb; omega), Below.heap_setCell _ _ _ _ (by show j ≠ w.heap.size + 1; omega)]
        have zh1 : Z.heap[w.heap.size + 1]? = some (.cells #[.int .i32 1114112] 21 (0, 0)) := by rw [← hZ]; exact (Below.heap_setCell _ _ _ _ (by show w.heap.size + 1 ≠ kb; omega)).trans (box_set e1 _)
        have zh2 : Z.heap[kb]? = some (.cells #[.int .i64 (ng : Nat)] 3 (0, 0)) := by rw [← hZ]; exact box_set e2' _
        have zh3 := (oth _ (by omega) (by omega)).trans g3
        have zh4 := (oth _ (by omega) (by omega)).trans e3
        have zh0 := (oth _ (by omega) (by omega)).trans g0
        have zhD := (oth _ (by omega) (by omega)).trans gD
        have zhD2 := (oth _ (by omega) (by omega)).trans hK2
        have hbZ : Below w.heap.size w Z := by
          have hsZ : Z.heap.size = Y.heap.size := by rw [← hZ]; simp [World.setCell, hq]
          have e6s := e6.size
          exact ⟨by rw [← hZ]; exact hqs.1.trans e6.os, by rw [← hZ]; exact hqs.2.1.trans e6.tape, by rw [← hZ]; exact hqs.2.2.trans e6.output, by omega, fun j hj => (oth j (by omega) (by omega)).trans (by rw [hq]; exact e6.block j hj)⟩
        rw [hZ]
        clear hZ oth e1 e2' e3 g3 g0 gD hK2 e6 hq hqs HE A3 A2 A6 B1 C1 A2' C2'
        have Z1 := (box_cell zh1).1
        have Z2 := (box_cell zh2).1
        have Z3 := (box_cell zh3).1
        have Z4 := (box_cell zh4).1
        have X1 := fun dq os => cell_regrown Z1 dq os
        have X2 := fun dq os => cell_regrown Z2 dq os
        have X3 := fun dq os => cell_regrown Z3 dq os
        have X4 := fun dq os => cell_regrown Z4 dq os
        have HS2 := hide (fun dq os => unhide HSZ (Sort.grow (redrawn Z dq) os) (hbZ.trans ((below_regrown Z dq os).mono hbZ.size)))
        have HFIN := hide (⟨zh0, zhD, zhD2, hbZ, hD, hD2, hszL, hs1L, hDV, h8⟩ : Z.heap[w.heap.size]? = some (.cells #[.bool false] 4 (0, 0)) ∧ Z.heap[D]? = some (.deferred (some [])) ∧ Z.heap[D2]? = some (.deferred (some [])) ∧ Below w.heap.size w Z ∧ W0.heap.size ≤ D ∧ W1.heap.size ≤ D2 ∧ w.heap.size + 5 ≤ W0.heap.size ∧ kb + 2 ≤ W1.heap.size ∧ D < kb ∧ W0.heap.size ≤ kb)
        have qsz : (sz == sz) = true := by simp
        have qng : ((ng : Int) == (ng : Int)) = true := by simp
        clear Z1 Z2 Z3 Z4 zh0 zh1 zh2 zh3 zh4 zhD zhD2 hbZ
        refine wpIn_wide.2 ?_
        refine MixW.start (by kernel_rfl) ?_
        refine MixW.segD (C := fun w' => ∃ p : Regrown, w' = Sort.grow (redrawn Z p.d) p.os) 0 14 1 [0, 1, 3, 7, 15, 23, 55, 31, 63, 127, 255, 511, 1023, 1535, 3583, 2047, 4095, 8191, 16383] (by kernel_rfl) ⟨⟨Z.drawn + 1, #[]⟩, by rw [Sort.grow_empty]; rfl⟩ ?_
        simp only [Nat.reduceAdd, List.take_succ_cons, List.take_zero, List.drop_zero]
        repeat (go_big_quiet_step (first | (go_at_call 28; with_reducible exact Calls.regrown_of (unhide HS2 _ _))))
        refine wpQuiet_nil ?_
        intro _ hw'
        obtain ⟨⟨dq, osq⟩, hw''⟩ := hw'
        subst hw''
        obtain ⟨zh0, zhD, zhD2, hbZ, i1, i2, i3, i4, i5, i6⟩ := unhide HFIN
        have hbR := below_regrown Z dq osq
        obtain ⟨R, hR⟩ : ∃ R, Sort.grow (redrawn Z dq) osq = R := ⟨_, rfl⟩
        rw [hR] at hbR ⊢
        have r0 := (hbR.block _ (Array.getElem?_eq_some_iff.1 zh0).1).trans zh0
        have rD := (hbR.block _ (Array.getElem?_eq_some_iff.1 zhD).1).trans zhD
        have rD2 := (hbR.block _ (Array.getElem?_eq_some_iff.1 zhD2).1).trans zhD2
        have hbX := hbZ.trans (hbR.mono hbZ.size)
        have q0 := (box_cell r0).1
        have f0 := (box_cell r0).2
        have HX := hide (⟨r0, rD, rD2, hbX⟩ : R.heap[w.heap.size]? = some (.cells #[.bool false] 4 (0, 0)) ∧ R.heap[D]? = some (.deferred (some [])) ∧ R.heap[D2]? = some (.deferred (some [])) ∧ Below w.heap.size w R)
        clear hR X1 X2 X3 X4 r0 rD rD2 hbX hbR zh0 zhD zhD2 hbZ
        refine MixW.loud 1 14 0 _ _ (by decide) (by kernel_rfl) ?_
        simp only [Nat.reduceAdd, List.drop_succ_cons, List.drop_zero, List.take_succ_cons, List.take_zero]
        go_wp2_with fail
        refine ⟨by kernel_rfl, ?_⟩
        gi_wp2
        obtain ⟨r0, rD, rD2, hbX⟩ := unhide HX
        have j2 : (R.setCell ⟨w.heap.size, 0, none⟩ (.bool true)).heap[D2]? = some (.deferred (some [])) := (Below.heap_setCell _ _ _ _ (by show D2 ≠ w.heap.size; omega)).trans rD2
        have j1 : ((R.setCell ⟨w.heap.size, 0, none⟩ (.bool true)).putObj D2 (.deferred none)).heap[D]? = some (.deferred (some [])) := (World.putObj_heap_other (by omega)).trans ((Below.heap_setCell _ _ _ _ (by show D ≠ w.heap.size; omega)).trans rD)
        have j9 := box_set r0 (.bool true)
        have j10 : (((R.setCell ⟨w.heap.size, 0, none⟩ (.bool true)).putObj D2 (.deferred none)).putObj D (.deferred none)).heap[w.heap.size]? = some (.cells #[.bool true] 4 (0, 0)) := (World.putObj_heap_other (by omega)).trans ((World.putObj_heap_other (by omega)).trans j9)
        refine ⟨by simp, .inl ⟨_, _, rfl, run_takeDeferred j2, by simp, .inl ⟨_, _, rfl, run_takeDeferred j1, ?_⟩⟩⟩
        refine ⟨.bool true, ?_, rfl, below_put (below_put (hbX.setCell (by simp) _) (by omega) _) (by omega) _⟩
        simp [results, Try.results10, go_sem, World.cell?, j10]
      · have hE2 : E = 1114112 := by omega
        subst hE2
        rw [if_neg hle] at hl
        have hkn : kk = ng := by omega
        subst hkn
        have d2 : decide (kk < kk) = false := by simp
        clear hl hle hgl hEm hgc1
        gi_wp2_with fail
        obtain ⟨Z, hZ⟩ : ∃ Z, Y = Z := ⟨_, rfl⟩
        rw [hZ] at e1 e2 e3 g3 g0 gD hK2 e6 a0 f0 a1 a2 a3 a4 ⊢
        have zh1 := e1
        have zh2 := e2
        have zh3 := g3
        have zh4 := e3
        have zh0 := g0
        have zhD := gD
        have zhD2 := hK2
        have hbZ := e6
        clear e1 e2 e3 g3 g0 gD hK2 e6 a0 f0 a1 a2 a3 a4 e4 e5
        have Z1 := (box_cell zh1).1
        have Z2 := (box_cell zh2).1
        have Z3 := (box_cell zh3).1
        have Z4 := (box_cell zh4).1
        have X1 := fun dq os => cell_regrown Z1 dq os
        have X2 := fun dq os => cell_regrown Z2 dq os
        have X3 := fun dq os => cell_regrown Z3 dq os
        have X4 := fun dq os => cell_regrown Z4 dq os
        have HS2 := hide (fun dq os => unhide HSZ (Sort.grow (redrawn Z dq) os) (hbZ.trans ((below_regrown Z dq os).mono hbZ.size)))
        have HFIN := hide (⟨zh0, zhD, zhD2, hbZ, hD, hD2, hszL, hs1L, hDV, h8⟩ : Z.heap[w.heap.size]? = some (.cells #[.bool false] 4 (0, 0)) ∧ Z.heap[D]? = some (.deferred (some [])) ∧ Z.heap[D2]? = some (.deferred (some [])) ∧ Below w.heap.size w Z ∧ W0.heap.size ≤ D ∧ W1.heap.size ≤ D2 ∧ w.heap.size + 5 ≤ W0.heap.size ∧ kb + 2 ≤ W1.heap.size ∧ D < kb ∧ W0.heap.size ≤ kb)
        have qsz : (sz == sz) = true := by simp
        have qng : ((kk : Int) == (kk : Int)) = true := by simp
        clear Z1 Z2 Z3 Z4 zh0 zh1 zh2 zh3 zh4 zhD zhD2 hbZ
        refine wpIn_wide.2 ?_
        refine MixW.start (by kernel_rfl) ?_
        refine MixW.segD (C := fun w' => ∃ p : Regrown, w' = Sort.grow (redrawn Z p.d) p.os) 0 14 1 [0, 1, 3, 7, 15, 23, 55, 31, 63, 127, 255, 511, 1023, 1535, 3583, 2047, 4095, 8191, 16383] (by kernel_rfl) ⟨⟨Z.drawn + 1, #[]⟩, by rw [Sort.grow_empty]; rfl⟩ ?_
        simp only [Nat.reduceAdd, List.take_succ_cons, List.take_zero, List.drop_zero]
        repeat (go_big_quiet_step (first | (go_at_call 28; with_reducible exact Calls.regrown_of (unhide HS2 _ _))))
        refine wpQuiet_nil ?_
        intro _ hw'
        obtain ⟨⟨dq, osq⟩, hw''⟩ := hw'
        subst hw''
        obtain ⟨zh0, zhD, zhD2, hbZ, i1, i2, i3, i4, i5, i6⟩ := unhide HFIN
        have hbR := below_regrown Z dq osq
        obtain ⟨R, hR⟩ : ∃ R, Sort.grow (redrawn Z dq) osq = R := ⟨_, rfl⟩
        rw [hR] at hbR ⊢
        have r0 := (hbR.block _ (Array.getElem?_eq_some_iff.1 zh0).1).trans zh0
        have rD := (hbR.block _ (Array.getElem?_eq_some_iff.1 zhD).1).trans zhD
        have rD2 := (hbR.block _ (Array.getElem?_eq_some_iff.1 zhD2).1).trans zhD2
        have hbX := hbZ.trans (hbR.mono hbZ.size)
        have q0 := (box_cell r0).1
        have f0 := (box_cell r0).2
        have HX := hide (⟨r0, rD, rD2, hbX⟩ : R.heap[w.heap.size]? = some (.cells #[.bool false] 4 (0, 0)) ∧ R.heap[D]? = some (.deferred (some [])) ∧ R.heap[D2]? = some (.deferred (some [])) ∧ Below w.heap.size w R)
        clear hR X1 X2 X3 X4 r0 rD rD2 hbX hbR zh0 zhD zhD2 hbZ
        refine MixW.loud 1 14 0 _ _ (by decide) (by kernel_rfl) ?_
        simp only [Nat.reduceAdd, List.drop_succ_cons, List.drop_zero, List.take_succ_cons, List.take_zero]
        go_wp2_with fail
        refine ⟨by kernel_rfl, ?_⟩
        gi_wp2
        obtain ⟨r0, rD, rD2, hbX⟩ := unhide HX
        have j2 : (R.setCell ⟨w.heap.size, 0, none⟩ (.bool true)).heap[D2]? = some (.deferred (some [])) := (Below.heap_setCell _ _ _ _ (by show D2 ≠ w.heap.size; omega)).trans rD2
        have j1 : ((R.setCell ⟨w.heap.size, 0, none⟩ (.bool true)).putObj D2 (.deferred none)).heap[D]? = some (.deferred (some [])) := (World.putObj_heap_other (by omega)).trans ((Below.heap_setCell _ _ _ _ (by show D ≠ w.heap.size; omega)).trans rD)
        have j9 := box_set r0 (.bool true)
        have j10 : (((R.setCell ⟨w.heap.size, 0, none⟩ (.bool true)).putObj D2 (.deferred none)).putObj D (.deferred none)).heap[w.heap.size]? = some (.cells #[.bool true] 4 (0, 0)) := (World.putObj_heap_other (by omega)).trans ((World.putObj_heap_other (by omega)).trans j9)
        refine ⟨by simp, .inl ⟨_, _, rfl, run_takeDeferred j2, by simp, .inl ⟨_, _, rfl, run_takeDeferred j1, ?_⟩⟩⟩
        refine ⟨.bool true, ?_, rfl, below_put (below_put (hbX.setCell (by simp) _) (by omega) _) (by omega) _⟩
        simp [results, Try.results10, go_sem, World.cell?, j10]
    case stop2 =>
      rintro D c pre V hD hSp hx hK
      exact hx.elim
  case stop =>
    rintro D c pre V hD hSp hx hK
    exact hx.elim
end Go.Proofs.Ytnhcbcbceaeceaa
