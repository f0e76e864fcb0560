/-
  Over: a map that has the upper one's values, else the lower one's.
-/
import Derived.Test.YtompifmfgjenlaaGreatPGapI
import Derived.Test.YtompifmfgjenlaaGreatPWitI
import Derived.Test.YtompifmfgjenlaaGreatPSoI
import Derived.Test.YtompifmfgjenlaaGreatPoQr
import Derived.Test.YtompifmfgjenlaaGreatPoQp
namespace Go.Proofs.YtompifmfgjenlaaGreat.VI
open Go.RowKit Go.PlainAid Go.Lib Go.PRow Go.Shelf Go.Seq4 Go.Seq8
attribute [local go_sem] Oper.semAt_some
set_option linter.unusedVariables false
set_option linter.unusedSimpArgs false

theorem row_blk {W : World} {B : Nat} {v : Value} {ps : List (Pc Int)} (h : RowP W B v ps) {g : Nat} (hg : blk v = some g) : ∃ cur, W.heap[g]? = some (.cells cur 58 (0, 0)) := by
  rcases h.2 with ⟨a, rfl, hn⟩ | ⟨g', cap, cur, rfl, hb, hh, hc, hm, hs, ht⟩
  · rw [blk_zero] at hg; cases hg
  · have e : g' = g := by
      by_cases hc0 : cap = 0
      · subst hc0; rw [blk_zero] at hg; cases hg
      · rw [blk_pos (by omega)] at hg; exact Option.some.inj hg
    subst e
    exact ⟨cur, hh⟩
theorem row_ne {W : World} {B : Nat} {v : Value} {ps : List (Pc Int)} (h : RowP W B v ps) {g : Nat} {ob : Obj} (hg : W.heap[g]? = some ob) (hne : ∀ cur, ob ≠ .cells cur 58 (0, 0)) : blk v ≠ some g := by
  intro e
  obtain ⟨cur, hc⟩ := row_blk h e
  rw [hc] at hg
  exact hne cur (Option.some.inj hg).symm

set_option maxRecDepth 100000 in
set_option maxHeartbeats 4000000 in
theorem over_any (lp hp : Value) (vl : Value) (Bl : Nat) (ls : List (Pc Int)) (ol : OkP ls) (vh : Value) (Bh : Nat) (hs : List (Pc Int)) (oh : OkP hs) (he : ∀ a b, eqv a b = true → a = b) (w : World)
    (hlp : ∀ V, Below w.heap.size w V → Calls Tryz.prog 28 #[lp] V fun e w' => e = .returned vl ∧ w' = V) (hrl : RowP w Bl vl ls)
    (hhp : ∀ V, Below w.heap.size w V → Calls Tryz.prog 28 #[hp] V fun e w' => e = .returned vh ∧ w' = V) (hrh : RowP w Bh vh hs) (pl : ∃ a, lp = .pointer a) (ph : ∃ a, hp = .pointer a) :
    Calls Tryz.prog 6 #[lp, hp] w fun e w' => ∃ bo u, e = .returned (.pointer (some ⟨bo, 0, none⟩)) ∧ IsMap w' bo u ∧ RowP w' w.heap.size u (overP eqv hs ls) ∧ w.heap.size ≤ bo ∧ Below w.heap.size w w' := by
  have hlenh := okP_len oh
  have hlenl := okP_len ol
  obtain ⟨W1, hW1⟩ : ∃ W1, W1 = w.alloc (.cells #[lp] 24) := ⟨_, rfl⟩
  have hB1 : Below w.heap.size w W1 := by rw [hW1]; exact (Below.refl _ w).alloc (Nat.le_refl _) _
  have hs1 : W1.heap.size = w.heap.size + 1 := by rw [hW1]; simp
  have y1 : W1.heap[w.heap.size]? = some (.cells #[lp] 24 (0, 0)) := by rw [hW1]; exact heap_alloc_new w _
  have HH := hide (hhp W1 hB1)
  have HC := hide (clone_any Bh vh hs W1 (hrh.below hB1) (by omega))
  obtain ⟨ah, caph, rfl, hch1, hch2, -, -⟩ := hrh.form
  obtain ⟨pa, rfl⟩ := pl
  obtain ⟨pb, rfl⟩ := ph
  refine (callsIn_wide (n := 11)).1 ?_
  refine callsIn_of_wp_marks Tryz.func6 rfl trivial ?_ rfl
  simp only [Tryz.ntmps6, List.size_toArray, List.length_cons, List.length_nil, Nat.reduceAdd, Nat.reduceSub, Array.replicate_succ, Array.replicate_zero, List.push_toArray, List.append_toArray, List.nil_append, List.cons_append]
  have hF : ∀ f, Fence.wide.fn f := fun _ => trivial
  gi_wp2_with fail
  rw [← hW1]
  clear hW1
  refine (callsIn_wide.2 (unhide HH)).mono ?_
  rintro e w' ⟨rfl, h⟩
  obtain rfl : W1 = w' := h.symm
  gi_wp2_with fail
  refine (callsIn_wide.2 (unhide HC)).mono ?_
  rintro e W2 ⟨v2, rfl, hr2, hb2, hx2⟩
  obtain ⟨a2, cap2, rfl, hc3, hc4, -, -⟩ := hr2.form
  gi_wp2_with fail
  refine (callsIn_wide.2 (holding_any a2 hs.length cap2 _)).mono ?_
  rintro e w' ⟨rfl, rfl⟩
  gi_wp2_with fail
  refine (callsIn_wide.2 (gaps_in W2.heap.size _)).mono ?_
  rintro e w' ⟨rfl, rfl⟩
  gi_wp2
  obtain ⟨W0, hW0⟩ : ∃ W0, ((W2.alloc (.cells #[.bool true, .slice a2 hs.length cap2] 64)).alloc (.cells #[.pointer (some ⟨W2.heap.size, 0, none⟩)] 24)).alloc (.cells #[.pointer (some ⟨W2.heap.size, 0, none⟩)] 24) = W0 := ⟨_, rfl⟩
  have hs2 := hb2.size
  have hsz : W0.heap.size = W2.heap.size + 3 := by rw [← hW0]; simp
  have hb20 : Below W2.heap.size W2 W0 := by rw [← hW0]; exact (((Below.refl _ W2).alloc (Nat.le_refl _) _).alloc (by simp) _).alloc (by simp; omega) _
  have hb02 : Below w.heap.size w W2 := hB1.trans (hb2.mono (by omega))
  have hb0 : Below w.heap.size w W0 := hb02.trans (hb20.mono (by omega))
  have m0 : IsMap W0 W2.heap.size (.slice a2 hs.length cap2) := by
    show W0.heap[W2.heap.size]? = _
    rw [← hW0, Below.heap_alloc _ _ _ (by simp; omega), Below.heap_alloc _ _ _ (by simp)]
    exact heap_alloc_new W2 _
  have b5 : W0.heap[W2.heap.size + 1]? = some (.cells #[.pointer (some ⟨W2.heap.size, 0, none⟩)] 24 (0, 0)) := by
    rw [← hW0, Below.heap_alloc _ _ _ (by simp)]
    have := heap_alloc_new (W2.alloc (.cells #[.bool true, .slice a2 hs.length cap2] 64)) (.cells #[.pointer (some ⟨W2.heap.size, 0, none⟩)] 24)
    simpa using this
  have bg : W0.heap[W2.heap.size + 1 + 1]? = some (.cells #[.pointer (some ⟨W2.heap.size, 0, none⟩)] 24 (0, 0)) := by
    rw [← hW0]
    have := heap_alloc_new ((W2.alloc (.cells #[.bool true, .slice a2 hs.length cap2] 64)).alloc (.cells #[.pointer (some ⟨W2.heap.size, 0, none⟩)] 24)) (.cells #[.pointer (some ⟨W2.heap.size, 0, none⟩)] 24)
    simpa using this
  have b2 : W0.heap[w.heap.size]? = some (.cells #[.pointer pa] 24 (0, 0)) := (hb20.block _ (by omega)).trans ((hb2.block _ (by omega)).trans y1)
  have r0 : RowP W0 W1.heap.size (.slice a2 hs.length cap2) hs := hr2.below hb20
  have rlt : ∀ g, blk (.slice a2 hs.length cap2) = some g → g < W2.heap.size := fun g hg => (RowV.lt hr2 g hg).2
  have hge := gapsP_ok (strs_ok eqv oh)
  have hglen : (gapsP (strsP eqv hs)).length ≤ 1114113 := by
    have a := gapsPre_len (strsP eqv hs) 0
    have b := okP_len (strs_ok eqv oh)
    have c : (lastGap (endP 0 (strsP eqv hs))).length ≤ 1 := by unfold lastGap; split <;> simp
    unfold gapsP
    rw [List.length_append]
    omega
  rw [hW0]
  clear hW0 HH HC hx2
  refine range8B (by omega) (gf := 60) (lb := #[.pointer (some ⟨W2.heap.size + 1 + 1, 0, none⟩)]) rfl (enters_of Tryz.func60 (by kernel_rfl) rfl)
    (gaps_gives hs oh _ (W2.heap.size + 1 + 1) W2.heap.size (.slice a2 hs.length cap2) (by omega) W0 bg m0 (r0.mono (Nat.zero_le _))) (Below.refl _ _) (fun _ => rfl)
    (fun m z pre V => (∃ vs, IsMap V W2.heap.size vs ∧ RowP V w.heap.size vs (hs ++ partsP ls pre) ∧ ∀ g, blk vs = some g → g < W0.heap.size ∨ W0.heap.size + 2 + m ≤ g ∧ g < z) ∧ V.heap[w.heap.size]? = some (.cells #[.pointer pa] 24 (0, 0)) ∧ V.heap[W2.heap.size + 1]? = some (.cells #[.pointer (some ⟨W2.heap.size, 0, none⟩)] 24 (0, 0)) ∧ Below w.heap.size w V ∧ W0.heap.size ≤ V.heap.size ∧ W0.heap.size ≤ z)
    (fun c pre V => False)
    (fun m z => OwnFrom.and (by
      rintro x W W' row ⟨vs, h1, h2, h3⟩ hg hr
      have h1' : W.heap[W2.heap.size]? = some (.cells #[.bool true, vs] 64 (0, 0)) := h1
      refine ⟨vs, (grownBy_keeps_cells hg (fun r e => (hr r e).2) h1' rfl).trans h1', h2.kept fun g hgk => ?_, h3⟩
      rcases h2.2 with ⟨a, rfl, hn⟩ | ⟨g', cap, cur, rfl, hb, hh, hc, hm, hs, ht⟩
      · rw [blk_zero] at hgk; cases hgk
      · have e : g' = g := by
          by_cases hc0 : cap = 0
          · subst hc0; rw [blk_zero] at hgk; cases hgk
          · rw [blk_pos (by omega)] at hgk; exact Option.some.inj hgk
        subst e
        exact grownBy_keeps_cells hg (fun r e => (hr r e).2) hh rfl) ((own_block _ _ _ rfl).and ((own_block _ _ _ rfl).and ((ownFrom_below (Nat.le_refl _) (by omega)).and ((own_size _ _).and (own_pure _ (fun _ => W0.heap.size ≤ z)))))))
    (fun c => own_pure _ _)
    (fun m z hm s V k o v q1 q2 h => by
      obtain ⟨⟨vs, h1, h2, h3⟩, h4, h5, h6, h7, h8⟩ := h
      have ne : ∀ j, j < W0.heap.size → j ≠ k := fun j hj => by omega
      have hk : ∀ j, j ≠ k → (V.setCell ⟨k, o, none⟩ v).heap[j]? = V.heap[j]? := fun j hj => Below.heap_setCell _ _ _ _ hj
      have h1' : V.heap[W2.heap.size]? = some (.cells #[.bool true, vs] 64 (0, 0)) := h1
      refine ⟨⟨vs, (hk _ (ne _ (by omega))).trans h1', h2.kept fun g hg => hk g ?_, h3⟩, (hk _ (ne _ (by omega))).trans h4, (hk _ (ne _ (by omega))).trans h5, h6.setCell (p := ⟨k, o, none⟩) (by show w.heap.size ≤ k; omega) v, by simpa [World.setCell] using h7, h8⟩
      rcases h3 g hg with a | a
      · exact ne g a
      · omega)
    (fun m z hz => ⟨⟨_, m0, by simpa [partsP] using r0.mono (by omega), fun g hg => .inl (by have := rlt g hg; omega)⟩, b2, b5, hb0, Nat.le_refl _, hz⟩)
    (fun x => .cells #[.int .i32 x.1, .int .i32 x.2] 41 (0, 0)) (fun _ => rfl) ?fr ?assign ?body ?done ?stop
  case assign =>
    intro l2 x V K hK
    gi_wp2
    generalize hBx : V.heap.size = Bx
    exact hK Bx hBx.symm
  case body =>
    rintro m z l2 pre x Bx V hm2 hl hsz2 ⟨r, hr⟩ ⟨⟨vs, h1, h2, h3⟩, h4, h5, h6, h7, h8⟩ hx1 hx2 hSp
    have hxm : x ∈ gapsP (strsP eqv hs) := hSp.subset (by simp)
    have kx := hge.each x hxm
    have hpl : pre.length + 1 ≤ 1114113 := by have := hSp.length_le; simp at this; omega
    have hW := hide (fun V' (hV' : Below w.heap.size w V') => within_any Bl vl ls ol x.1 x.2 kx.2.1 V' (hrl.below hV'))
    have HLP := hide hlp
    have h1' : V.heap[W2.heap.size]? = some (.cells #[.bool true, vs] 64 (0, 0)) := h1
    have hbm := h1.lt
    have hap := h1.apart h2
    have hp1 : (partsP ls pre).length ≤ 1114113 * 1114112 := Nat.le_trans (parts_len pre) (Nat.mul_le_mul (by omega) hlenl)
    have hcl : ∀ (j : Nat) (ob : Obj), blk vs = some j → V.heap[j]? = some ob → ob.isCells = true := by
      intro j ob hj hob
      rcases h2.2 with ⟨a, rfl, hn⟩ | ⟨g', cap, cur, rfl, hb, hh, hc, hm, hs, ht⟩
      · rw [blk_zero] at hj; cases hj
      · have e : g' = j := by
          by_cases hc0 : cap = 0
          · subst hc0; rw [blk_zero] at hj; cases hj
          · rw [blk_pos (by omega)] at hj; exact Option.some.inj hj
        subst e
        rw [hh] at hob
        cases hob
        rfl
    obtain ⟨QQ, hQQ⟩ : ∃ QQ : List (Pc Int), (midP ls x.1 x.2).map (clip1 x.1 x.2) = QQ := ⟨_, rfl⟩
    have hQl : QQ.length ≤ 1114112 := by
      rw [← hQQ, List.length_map]
      unfold midP
      rw [List.length_drop, List.length_take]; omega
    have hsnoc : hs ++ partsP ls (pre ++ [x]) = (hs ++ partsP ls pre) ++ QQ := by
      rw [partsP_snoc, ← hQQ, List.append_assoc]
      rfl
    refine wpIn_mono (Q := fun e a' V' => e = .normal ∧ ∃ Y Z u, Below V.heap.size V Y ∧ Turned Y Z w.heap.size vs u ((hs ++ partsP ls pre) ++ QQ) ∧ V' = Z.setCell ⟨W2.heap.size, 1, none⟩ u) ?region ?rest
    case rest =>
      rintro e a' V' ⟨rfl, Y, Z, u, hY, hZ, rfl⟩
      have hYs := hY.size
      have hZs := hZ.2.1.size
      have oZ : ∀ k (ob : Obj), V.heap[k]? = some ob → blk vs ≠ some k → Z.heap[k]? = some ob := fun k ob hk hne => by
        have hlt := (Array.getElem?_eq_some_iff.1 hk).1
        exact (hZ.2.1.block k (by omega) (fun e => hne e.symm)).trans ((hY.block k hlt).trans hk)
      have mZ := oZ _ _ h1' hap
      have k6 : (Z.setCell ⟨W2.heap.size, 1, none⟩ u).heap[W2.heap.size]? = some (.cells #[.bool true, u] 64 (0, 0)) := by
        rw [setCell_eq_setRow Z W2.heap.size 1 _ _ _ _ mZ]
        exact setRow_heap Z W2.heap.size _ _ _ _ mZ
      have oV : ∀ k (ob : Obj), V.heap[k]? = some ob → blk vs ≠ some k → k ≠ W2.heap.size → (Z.setCell ⟨W2.heap.size, 1, none⟩ u).heap[k]? = some ob := fun k ob hk hne hkb => (Below.heap_setCell _ _ _ _ hkb).trans (oZ k ob hk hne)
      have ss : (Z.setCell ⟨W2.heap.size, 1, none⟩ u).heap.size = Z.heap.size := by simp [World.setCell]
      have ko : KeepsOthers V (Z.setCell ⟨W2.heap.size, 1, none⟩ u) := by
        refine ⟨by omega, fun k ob hk ho => oV k ob hk (fun e => ?_) (fun e => ?_)⟩
        · rw [hcl k ob e hk] at ho; cases ho
        · subst e; rw [h1'] at hk; cases hk; cases ho
      have kw : KeepsWalks V (Z.setCell ⟨W2.heap.size, 1, none⟩ u) := ko.walks
      have hfar : ∀ g, blk vs = some g → w.heap.size ≤ g := fun g hg => (RowV.lt h2 g hg).1
      refine ⟨ko.from _, ⟨kw, fun k ob hk ho hx => oV k ob hx (fun e => ?_) (by rcases hk with hk | hk <;> omega)⟩, (Z.setCell ⟨W2.heap.size, 1, none⟩ u).heap.size, Nat.le_refl _, ⟨u, k6, ?_, fun g hg => ?_⟩, oV _ _ h4 (fun e => ?_) (by omega), oV _ _ h5 (fun e => ?_) (by omega), ?_, by omega, by omega⟩
      · rcases h3 k e with a | a
        · rcases hk with hk | hk <;> omega
        · rcases hk with hk | hk <;> omega
      · rw [hsnoc]
        exact hZ.1.kept fun g hg => Below.heap_setCell _ _ _ _ (by
          show g ≠ W2.heap.size
          intro e
          rw [e] at hg
          exact row_ne hZ.1 mZ (fun cur h => by cases h) hg)
      · have gl := (RowV.lt hZ.1 g hg).2
        rcases hZ.2.2 with e | e
        · rw [e] at hg
          rcases h3 g hg with a | a
          · exact .inl a
          · exact .inr ⟨a.1, by omega⟩
        · exact .inr ⟨by have := e g hg; omega, by omega⟩
      · exact row_ne h2 h4 (fun cur h => by cases h) e
      · exact row_ne h2 h5 (fun cur h => by cases h) e
      · exact Below.setCell (Turned.below hZ (h6.trans (hY.mono (by have := h6.size; omega))) (by have := h6.size; omega) hfar) (by show w.heap.size ≤ W2.heap.size; omega) _
    case region =>
      refine wpIn_block ?_
      obtain ⟨Inv, hInv⟩ : ∃ Inv : (Nat → Bool) → Act → World → Prop, Inv = (fun D a' V' => ∃ x14 x15 x16 x17 x18 x19 x20 x21 x22 x23 x24 x25 : Value, a' = { tmps := #[.pointer pa, .pointer pb, .pointer (some ⟨w.heap.size, 0, none⟩), undef, .pointer none, .pointer (some ⟨W2.heap.size + 1, 0, none⟩), .pointer (some ⟨Bx, 0, none⟩), .pointer pb, .slice ah hs.length caph, .slice a2 hs.length cap2, .pointer (some ⟨W2.heap.size, 0, none⟩), .pointer (some ⟨W2.heap.size, 0, none⟩), .func (.func 60) #[] #[.pointer (some ⟨W2.heap.size + 1 + 1, 0, none⟩)], .agg #[.int .i32 x.1, .int .i32 x.2], x14, x15, x16, x17, x18, x19, x20, x21, x22, x23, x24, x25, undef, undef, undef, undef, undef, undef], defers := [] } ∧ (D 0 = true → x14 = .pointer (some ⟨W2.heap.size, 0, none⟩)) ∧ (D 1 = true → x15 = .pointer (some ⟨W2.heap.size, 0, none⟩)) ∧ (D 2 = true → x16 = .pointer (some ⟨W2.heap.size, 0, none⟩)) ∧ (D 3 = true → x17 = .pointer (some ⟨W2.heap.size, 1, none⟩)) ∧ (D 4 = true → x18 = vs) ∧ (D 5 = true → x19 = .pointer pa) ∧ (D 6 = true → x20 = vl) ∧ (D 7 = true → x21 = .agg #[.int .i32 x.1, .int .i32 x.2]) ∧ (D 10 = true → x24 = .pointer (some ⟨W2.heap.size, 0, none⟩)) ∧ (D 11 = true → x25 = .pointer (some ⟨W2.heap.size, 1, none⟩)) ∧ (D 9 = false → Below V.heap.size V V' ∧ (D 8 = true → RowP V' V.heap.size x22 QQ)) ∧ (D 9 = true → D 12 = false → ∃ Y, Below V.heap.size V Y ∧ Turned Y V' w.heap.size vs x23 ((hs ++ partsP ls pre) ++ QQ)) ∧ (D 12 = true → ∃ Y Z u, Below V.heap.size V Y ∧ Turned Y Z w.heap.size vs u ((hs ++ partsP ls pre) ++ QQ) ∧ V' = Z.setCell ⟨W2.heap.size, 1, none⟩ u)) := ⟨_, rfl⟩
      have HInv := hide hInv
      clear hInv
      refine RegInv.region Inv (by kernel_rfl) (by kernel_rfl) (by kernel_rfl) ?h0 ?hs ?he
      case h0 =>
        rw [unhide HInv]
        exact ⟨undef, undef, undef, undef, undef, undef, undef, undef, undef, undef, undef, undef, rfl, fun h => (by cases h), fun h => (by cases h), fun h => (by cases h), fun h => (by cases h), fun h => (by cases h), fun h => (by cases h), fun h => (by cases h), fun h => (by cases h), fun h => (by cases h), fun h => (by cases h), fun _ => ⟨⟨rfl, rfl, rfl, Nat.le_refl _, fun _ _ => rfl⟩, fun h => (by cases h)⟩, fun h => (by cases h), fun h => (by cases h)⟩
      case he =>
        intro D a' V' hall hI
        rw [unhide HInv] at hI
        obtain ⟨x14, x15, x16, x17, x18, x19, x20, x21, x22, x23, x24, x25, -, -, -, -, -, -, -, -, -, -, -, -, -, hfin⟩ := hI
        exact ⟨rfl, hfin (hall 12 (by decide))⟩
      case hs =>
        refine ⟨?o0, ?o1, ?o2, ?o3, ?o4, ?o5, ?o6, ?o7, ?o8, ?o9, ?o10, ?o11, ?o12, trivial⟩
        case o0 =>
          rintro D a' V' hn hd hdn hI
          rw [unhide HInv] at hI
          obtain ⟨x14, x15, x16, x17, x18, x19, x20, x21, x22, x23, x24, x25, rfl, c0, c1, c2, c3, c4, c5, c6, c7, c10, c11, cA, cB, cC⟩ := hI
          have b5' : V'.heap[W2.heap.size + 1]? = some (.cells #[.pointer (some ⟨W2.heap.size, 0, none⟩)] 24 (0, 0)) := by
            cases h9 : D 9 with
            | false => exact ((cA h9).1.block _ (Array.getElem?_eq_some_iff.1 h5).1).trans h5
            | true =>
              have n12 : D 12 = false := by
                cases h12 : D 12 with
                | false => rfl
                | true =>
                  have e0 := hdn 12 _ rfl h12 0 (by decide)
                  rw [hn] at e0; cases e0
              obtain ⟨Y, hY, hT⟩ := cB h9 n12
              have l5 := (Array.getElem?_eq_some_iff.1 h5).1
              exact (hT.2.1.block _ (by have := hY.size; omega) (fun e => row_ne h2 h5 (fun cur h => by cases h) e.symm)).trans ((hY.block _ l5).trans h5)
          have g5 : V'.cell? ⟨W2.heap.size + 1, 0, none⟩ = some (.pointer (some ⟨W2.heap.size, 0, none⟩)) := by simp [World.cell?, b5']
          clear b5'
          gi_wp2
          show Inv _ _ _
          rw [unhide HInv]
          exact ⟨_, x15, x16, x17, x18, x19, x20, x21, x22, x23, x24, x25, rfl, fun _ => rfl, fun h => c1 (by simpa using h), fun h => c2 (by simpa using h), fun h => c3 (by simpa using h), fun h => c4 (by simpa using h), fun h => c5 (by simpa using h), fun h => c6 (by simpa using h), fun h => c7 (by simpa using h), fun h => c10 (by simpa using h), fun h => c11 (by simpa using h), fun h => cA (by simpa using h), fun h h' => cB (by simpa using h) (by simpa using h'), fun h => cC (by simpa using h)⟩
        case o1 =>
          rintro D a' V' hn hd hdn hI
          rw [unhide HInv] at hI
          obtain ⟨x14, x15, x16, x17, x18, x19, x20, x21, x22, x23, x24, x25, rfl, c0, c1, c2, c3, c4, c5, c6, c7, c10, c11, cA, cB, cC⟩ := hI
          have n9 : D 9 = false := by
            cases h9 : D 9 with
            | false => rfl
            | true =>
              have e0 := h9
              have e0 := hdn 9 _ rfl e0 4 (by decide)
              have e0 := hdn 4 _ rfl e0 3 (by decide)
              have e0 := hdn 3 _ rfl e0 2 (by decide)
              have e0 := hdn 2 _ rfl e0 1 (by decide)
              rw [hn] at e0; cases e0
          have hB := (cA n9).1
          have bx := (hB.block _ (Array.getElem?_eq_some_iff.1 h5).1).trans h5
          have g0 : V'.cell? ⟨W2.heap.size + 1, 0, none⟩ = some (.pointer (some ⟨W2.heap.size, 0, none⟩)) := by simp [World.cell?, bx]
          clear bx
          gi_wp2
          show Inv _ _ _
          rw [unhide HInv]
          exact ⟨x14, _, x16, x17, x18, x19, x20, x21, x22, x23, x24, x25, rfl, fun h => c0 (by simpa using h), fun _ => rfl, fun h => c2 (by simpa using h), fun h => c3 (by simpa using h), fun h => c4 (by simpa using h), fun h => c5 (by simpa using h), fun h => c6 (by simpa using h), fun h => c7 (by simpa using h), fun h => c10 (by simpa using h), fun h => c11 (by simpa using h), fun h => cA (by simpa using h), fun h h' => cB (by simpa using h) (by simpa using h'), fun h => cC (by simpa using h)⟩
        case o2 =>
          rintro D a' V' hn hd hdn hI
          rw [unhide HInv] at hI
          obtain ⟨x14, x15, x16, x17, x18, x19, x20, x21, x22, x23, x24, x25, rfl, c0, c1, c2, c3, c4, c5, c6, c7, c10, c11, cA, cB, cC⟩ := hI
          obtain rfl := c1 (hd 1 (by decide))
          gi_wp2
          show Inv _ _ _
          rw [unhide HInv]
          exact ⟨x14, _, _, x17, x18, x19, x20, x21, x22, x23, x24, x25, rfl, fun h => c0 (by simpa using h), fun _ => rfl, fun _ => rfl, fun h => c3 (by simpa using h), fun h => c4 (by simpa using h), fun h => c5 (by simpa using h), fun h => c6 (by simpa using h), fun h => c7 (by simpa using h), fun h => c10 (by simpa using h), fun h => c11 (by simpa using h), fun h => cA (by simpa using h), fun h h' => cB (by simpa using h) (by simpa using h'), fun h => cC (by simpa using h)⟩
        case o3 =>
          rintro D a' V' hn hd hdn hI
          rw [unhide HInv] at hI
          obtain ⟨x14, x15, x16, x17, x18, x19, x20, x21, x22, x23, x24, x25, rfl, c0, c1, c2, c3, c4, c5, c6, c7, c10, c11, cA, cB, cC⟩ := hI
          obtain rfl := c2 (hd 2 (by decide))
          gi_wp2
          show Inv _ _ _
          rw [unhide HInv]
          exact ⟨x14, x15, _, _, x18, x19, x20, x21, x22, x23, x24, x25, rfl, fun h => c0 (by simpa using h), fun h => c1 (by simpa using h), fun _ => rfl, fun _ => rfl, fun h => c4 (by simpa using h), fun h => c5 (by simpa using h), fun h => c6 (by simpa using h), fun h => c7 (by simpa using h), fun h => c10 (by simpa using h), fun h => c11 (by simpa using h), fun h => cA (by simpa using h), fun h h' => cB (by simpa using h) (by simpa using h'), fun h => cC (by simpa using h)⟩
        case o4 =>
          rintro D a' V' hn hd hdn hI
          rw [unhide HInv] at hI
          obtain ⟨x14, x15, x16, x17, x18, x19, x20, x21, x22, x23, x24, x25, rfl, c0, c1, c2, c3, c4, c5, c6, c7, c10, c11, cA, cB, cC⟩ := hI
          have n9 : D 9 = false := by
            cases h9 : D 9 with
            | false => rfl
            | true =>
              have e0 := h9
              have e0 := hdn 9 _ rfl e0 4 (by decide)
              rw [hn] at e0; cases e0
          have hB := (cA n9).1
          obtain rfl := c3 (hd 3 (by decide))
          have bx := (hB.block _ hbm).trans h1'
          have g1 : V'.cell? ⟨W2.heap.size, 1, none⟩ = some vs := by simp [World.cell?, bx]
          clear bx
          gi_wp2
          show Inv _ _ _
          rw [unhide HInv]
          exact ⟨x14, x15, x16, _, _, x19, x20, x21, x22, x23, x24, x25, rfl, fun h => c0 (by simpa using h), fun h => c1 (by simpa using h), fun h => c2 (by simpa using h), fun _ => rfl, fun _ => rfl, fun h => c5 (by simpa using h), fun h => c6 (by simpa using h), fun h => c7 (by simpa using h), fun h => c10 (by simpa using h), fun h => c11 (by simpa using h), fun h => cA (by simpa using h), fun h h' => cB (by simpa using h) (by simpa using h'), fun h => cC (by simpa using h)⟩
        case o5 =>
          rintro D a' V' hn hd hdn hI
          rw [unhide HInv] at hI
          obtain ⟨x14, x15, x16, x17, x18, x19, x20, x21, x22, x23, x24, x25, rfl, c0, c1, c2, c3, c4, c5, c6, c7, c10, c11, cA, cB, cC⟩ := hI
          have n9 : D 9 = false := by
            cases h9 : D 9 with
            | false => rfl
            | true =>
              have e0 := h9
              have e0 := hdn 9 _ rfl e0 8 (by decide)
              have e0 := hdn 8 _ rfl e0 6 (by decide)
              have e0 := hdn 6 _ rfl e0 5 (by decide)
              rw [hn] at e0; cases e0
          have hB := (cA n9).1
          have bx := (hB.block _ (Array.getElem?_eq_some_iff.1 h4).1).trans h4
          have g0 : V'.cell? ⟨w.heap.size, 0, none⟩ = some (.pointer pa) := by simp [World.cell?, bx]
          clear bx
          gi_wp2
          show Inv _ _ _
          rw [unhide HInv]
          exact ⟨x14, x15, x16, x17, x18, _, x20, x21, x22, x23, x24, x25, rfl, fun h => c0 (by simpa using h), fun h => c1 (by simpa using h), fun h => c2 (by simpa using h), fun h => c3 (by simpa using h), fun h => c4 (by simpa using h), fun _ => rfl, fun h => c6 (by simpa using h), fun h => c7 (by simpa using h), fun h => c10 (by simpa using h), fun h => c11 (by simpa using h), fun h => cA (by simpa using h), fun h h' => cB (by simpa using h) (by simpa using h'), fun h => cC (by simpa using h)⟩
        case o6 =>
          rintro D a' V' hn hd hdn hI
          rw [unhide HInv] at hI
          obtain ⟨x14, x15, x16, x17, x18, x19, x20, x21, x22, x23, x24, x25, rfl, c0, c1, c2, c3, c4, c5, c6, c7, c10, c11, cA, cB, cC⟩ := hI
          have n9 : D 9 = false := by
            cases h9 : D 9 with
            | false => rfl
            | true =>
              have e0 := h9
              have e0 := hdn 9 _ rfl e0 8 (by decide)
              have e0 := hdn 8 _ rfl e0 6 (by decide)
              rw [hn] at e0; cases e0
          have hB := (cA n9).1
          obtain rfl := c5 (hd 5 (by decide))
          have HL6 := hide (fun m => (callsIn_wide (n := m) |>.2 (unhide HLP V' (h6.trans (hB.mono h6.size)))).inRound l2)
          gi_wp2_with (gi_at_call 28; with_reducible refine CallsIn.mono (unhide HL6 _) ?_; rintro e w4 ⟨rfl, hw4⟩; obtain rfl : V' = w4 := hw4.symm)
          show Inv _ _ _
          rw [unhide HInv]
          exact ⟨x14, x15, x16, x17, x18, _, _, x21, x22, x23, x24, x25, rfl, fun h => c0 (by simpa using h), fun h => c1 (by simpa using h), fun h => c2 (by simpa using h), fun h => c3 (by simpa using h), fun h => c4 (by simpa using h), fun _ => rfl, fun _ => rfl, fun h => c7 (by simpa using h), fun h => c10 (by simpa using h), fun h => c11 (by simpa using h), fun h => cA (by simpa using h), fun h h' => cB (by simpa using h) (by simpa using h'), fun h => cC (by simpa using h)⟩
        case o7 =>
          rintro D a' V' hn hd hdn hI
          rw [unhide HInv] at hI
          obtain ⟨x14, x15, x16, x17, x18, x19, x20, x21, x22, x23, x24, x25, rfl, c0, c1, c2, c3, c4, c5, c6, c7, c10, c11, cA, cB, cC⟩ := hI
          have n9 : D 9 = false := by
            cases h9 : D 9 with
            | false => rfl
            | true =>
              have e0 := h9
              have e0 := hdn 9 _ rfl e0 8 (by decide)
              have e0 := hdn 8 _ rfl e0 7 (by decide)
              rw [hn] at e0; cases e0
          have hB := (cA n9).1
          have bx := (hB.block _ (Array.getElem?_eq_some_iff.1 hx1).1).trans hx1
          have g0 : V'.cell? ⟨Bx, 0, none⟩ = some (.int .i32 x.1) := by simp [World.cell?, bx]
          have g1 : V'.cell? ⟨Bx, 1, none⟩ = some (.int .i32 x.2) := by simp [World.cell?, bx]
          clear bx
          gi_wp2
          show Inv _ _ _
          rw [unhide HInv]
          exact ⟨x14, x15, x16, x17, x18, x19, x20, _, x22, x23, x24, x25, rfl, fun h => c0 (by simpa using h), fun h => c1 (by simpa using h), fun h => c2 (by simpa using h), fun h => c3 (by simpa using h), fun h => c4 (by simpa using h), fun h => c5 (by simpa using h), fun h => c6 (by simpa using h), fun _ => rfl, fun h => c10 (by simpa using h), fun h => c11 (by simpa using h), fun h => cA (by simpa using h), fun h h' => cB (by simpa using h) (by simpa using h'), fun h => cC (by simpa using h)⟩
        case o8 =>
          rintro D a' V' hn hd hdn hI
          rw [unhide HInv] at hI
          obtain ⟨x14, x15, x16, x17, x18, x19, x20, x21, x22, x23, x24, x25, rfl, c0, c1, c2, c3, c4, c5, c6, c7, c10, c11, cA, cB, cC⟩ := hI
          have n9 : D 9 = false := by
            cases h9 : D 9 with
            | false => rfl
            | true =>
              have e0 := h9
              have e0 := hdn 9 _ rfl e0 8 (by decide)
              rw [hn] at e0; cases e0
          have hB := (cA n9).1
          have n12 : D 12 = false := by
            cases h12 : D 12 with
            | false => rfl
            | true =>
              have e0 := hdn 12 _ rfl h12 8 (by decide)
              rw [hn] at e0; cases e0
          obtain rfl := c6 (hd 6 (by decide))
          obtain rfl := c7 (hd 7 (by decide))
          have HL8 := hide (fun m => (callsIn_wide (n := m) |>.2 (unhide hW V' (h6.trans (hB.mono h6.size)))).inRound l2)
          gi_wp2_with (gi_at_call 30; with_reducible refine CallsIn.mono (unhide HL8 _) ?_; rintro e w4 ⟨v4, rfl, hr4, hb4⟩)
          show Inv _ _ _
          rw [unhide HInv]
          exact ⟨x14, x15, x16, x17, x18, x19, _, _, _, x23, x24, x25, rfl, fun h => c0 (by simpa using h), fun h => c1 (by simpa using h), fun h => c2 (by simpa using h), fun h => c3 (by simpa using h), fun h => c4 (by simpa using h), fun h => c5 (by simpa using h), fun _ => rfl, fun _ => rfl, fun h => c10 (by simpa using h), fun h => c11 (by simpa using h), fun _ => ⟨hB.trans (hb4.mono hB.size), fun _ => by rw [← hQQ]; exact RowP.mono hr4 hB.size⟩, fun h => by simp [n9] at h, fun h => by simp [n12] at h⟩
        case o9 =>
          rintro D a' V' hn hd hdn hI
          rw [unhide HInv] at hI
          obtain ⟨x14, x15, x16, x17, x18, x19, x20, x21, x22, x23, x24, x25, rfl, c0, c1, c2, c3, c4, c5, c6, c7, c10, c11, cA, cB, cC⟩ := hI
          obtain rfl := c4 (hd 4 (by decide))
          have n12 : D 12 = false := by
            cases h12 : D 12 with
            | false => rfl
            | true =>
              have e0 := hdn 12 _ rfl h12 9 (by decide)
              rw [hn] at e0; cases e0
          obtain ⟨hB, hRw⟩ := cA hn
          have hR := hRw (hd 8 (by decide))
          have hvs := h2.below hB
          have HAPP := hide (append_ps w.heap.size V.heap.size x18 x22 (hs ++ partsP ls pre) QQ V' (by have := h6.size; have := hB.size; omega) hvs hR (by rw [List.length_append]; omega))
          refine wpListIn_append_ex rfl _ _ _ _ rfl _ _ rfl rfl (unhide HAPP) ?_
          rintro v5 w5 ⟨s5, -⟩
          show Inv _ _ _
          rw [unhide HInv]
          exact ⟨x14, x15, x16, x17, _, x19, x20, x21, x22, _, x24, x25, rfl, fun h => c0 (by simpa using h), fun h => c1 (by simpa using h), fun h => c2 (by simpa using h), fun h => c3 (by simpa using h), fun h => c4 (by simpa using h), fun h => c5 (by simpa using h), fun h => c6 (by simpa using h), fun h => c7 (by simpa using h), fun h => c10 (by simpa using h), fun h => c11 (by simpa using h), fun h => by simp at h, fun _ _ => ⟨V', hB, s5⟩, fun h => by simp [n12] at h⟩
        case o10 =>
          rintro D a' V' hn hd hdn hI
          rw [unhide HInv] at hI
          obtain ⟨x14, x15, x16, x17, x18, x19, x20, x21, x22, x23, x24, x25, rfl, c0, c1, c2, c3, c4, c5, c6, c7, c10, c11, cA, cB, cC⟩ := hI
          obtain rfl := c0 (hd 0 (by decide))
          gi_wp2
          show Inv _ _ _
          rw [unhide HInv]
          exact ⟨_, x15, x16, x17, x18, x19, x20, x21, x22, x23, _, x25, rfl, fun _ => rfl, fun h => c1 (by simpa using h), fun h => c2 (by simpa using h), fun h => c3 (by simpa using h), fun h => c4 (by simpa using h), fun h => c5 (by simpa using h), fun h => c6 (by simpa using h), fun h => c7 (by simpa using h), fun _ => rfl, fun h => c11 (by simpa using h), fun h => cA (by simpa using h), fun h h' => cB (by simpa using h) (by simpa using h'), fun h => cC (by simpa using h)⟩
        case o11 =>
          rintro D a' V' hn hd hdn hI
          rw [unhide HInv] at hI
          obtain ⟨x14, x15, x16, x17, x18, x19, x20, x21, x22, x23, x24, x25, rfl, c0, c1, c2, c3, c4, c5, c6, c7, c10, c11, cA, cB, cC⟩ := hI
          obtain rfl := c10 (hd 10 (by decide))
          gi_wp2
          show Inv _ _ _
          rw [unhide HInv]
          exact ⟨x14, x15, x16, x17, x18, x19, x20, x21, x22, x23, _, _, rfl, fun h => c0 (by simpa using h), fun h => c1 (by simpa using h), fun h => c2 (by simpa using h), fun h => c3 (by simpa using h), fun h => c4 (by simpa using h), fun h => c5 (by simpa using h), fun h => c6 (by simpa using h), fun h => c7 (by simpa using h), fun _ => rfl, fun _ => rfl, fun h => cA (by simpa using h), fun h h' => cB (by simpa using h) (by simpa using h'), fun h => cC (by simpa using h)⟩
        case o12 =>
          rintro D a' V' hn hd hdn hI
          rw [unhide HInv] at hI
          obtain ⟨x14, x15, x16, x17, x18, x19, x20, x21, x22, x23, x24, x25, rfl, c0, c1, c2, c3, c4, c5, c6, c7, c10, c11, cA, cB, cC⟩ := hI
          obtain rfl := c11 (hd 11 (by decide))
          obtain ⟨Y, hY, hT⟩ := cB (hd 9 (by decide)) hn
          have l5 := hY.size
          have bx := (hT.2.1.block W2.heap.size (by omega) (fun e => hap e.symm)).trans ((hY.block W2.heap.size hbm).trans h1')
          have g1 : V'.cell? ⟨W2.heap.size, 1, none⟩ = some vs := by simp [World.cell?, bx]
          have f1 : V'.frozen? ⟨W2.heap.size, 1, none⟩ = false := by simp [World.frozen?, bx]
          clear bx
          obtain ⟨au, Lu, cu, rfl⟩ : ∃ a L c, x23 = .slice a L c := by
            obtain ⟨a, c, e, _⟩ := hT.1.form
            exact ⟨a, _, c, e⟩
          gi_wp2
          show Inv _ _ _
          rw [unhide HInv]
          exact ⟨x14, x15, x16, x17, x18, x19, x20, x21, x22, _, x24, _, rfl, fun h => c0 (by simpa using h), fun h => c1 (by simpa using h), fun h => c2 (by simpa using h), fun h => c3 (by simpa using h), fun h => c4 (by simpa using h), fun h => c5 (by simpa using h), fun h => c6 (by simpa using h), fun h => c7 (by simpa using h), fun h => c10 (by simpa using h), fun _ => rfl, fun h => by simp [hd 9 (by decide)] at h, fun _ h => by simp at h, fun _ => ⟨Y, V', _, hY, hT, rfl⟩⟩
  case done =>
    rintro D m z xs V hD hS ⟨⟨vs, h1, h2, h3⟩, h4, h5, h6, h7, h8⟩ hK
    subst hS
    have hlen2 : (hs ++ partsP ls (gapsP (strsP eqv hs))).length < 4611686018427387904 := by
      have : (partsP ls (gapsP (strsP eqv hs))).length ≤ 1114113 * 1114112 := Nat.le_trans (parts_len _) (Nat.mul_le_mul hglen hlenl)
      rw [List.length_append]
      omega
    obtain ⟨UU, hUU⟩ : ∃ UU : List (Pc Int), hs ++ partsP ls (gapsP (strsP eqv hs)) = UU := ⟨_, rfl⟩
    have HIS := hide (fun (qs : List (Pc Int)) (hp : qs.Perm UU) (hsrt : qs.Pairwise (fun p q => ¬ q.lo < p.lo)) => over_is eqv he oh ol (hUU ▸ hp) hsrt)
    rw [hUU] at h2 hlen2
    clear hUU
    have HS := hide (sort_row w.heap.size vs _ V h2 hlen2)
    have h1' : V.heap[W2.heap.size]? = some (.cells #[.bool true, vs] 64 (0, 0)) := h1
    have hap := h1.apart h2
    have hfar : ∀ g, blk vs = some g → w.heap.size ≤ g := fun g hg => (RowV.lt h2 g hg).1
    have c5 : V.cell? ⟨W2.heap.size + 1, 0, none⟩ = some (.pointer (some ⟨W2.heap.size, 0, none⟩)) := by simp [World.cell?, h5]
    have c6 : V.cell? ⟨W2.heap.size, 1, none⟩ = some vs := by simp [World.cell?, h1']
    have c7 : V.cell? ⟨W2.heap.size, 0, none⟩ = some (.bool true) := by simp [World.cell?, h1']
    have rowd : blk vs ≠ some D := row_ne h2 hK (fun cur h => by cases h)
    have row5 : blk vs ≠ some (W2.heap.size + 1) := row_ne h2 h5 (fun cur h => by cases h)
    obtain ⟨av, capv, rfl, hcv1, hcv2, -, -⟩ := h2.form
    gi_wp2_with fail
    refine (callsIn_wide.2 (unhide HS)).mono ?_
    rintro e V2 ⟨rfl, qs, hperm, hsrt, hrq, hgr⟩
    obtain rfl := unhide HIS qs hperm (hsrt.imp (fun h => by omega))
    have oV : ∀ k (ob : Obj), V.heap[k]? = some ob → blk (.slice av UU.length capv) ≠ some k → V2.heap[k]? = some ob := fun k ob hk hne => (hgr.block k (Array.getElem?_eq_some_iff.1 hk).1 (fun e => hne e.symm)).trans hk
    have d2 := oV _ _ hK rowd
    have m2 := oV _ _ h1' hap
    have e5 := oV _ _ h5 row5
    have k5 : V2.cell? ⟨W2.heap.size + 1, 0, none⟩ = some (.pointer (some ⟨W2.heap.size, 0, none⟩)) := by simp [World.cell?, e5]
    gi_wp2
    refine ⟨by simp, .inl ⟨_, _, rfl, run_takeDeferred d2, ?_⟩⟩
    have hDb : D ≠ W2.heap.size := by omega
    refine ⟨_, results_tmp rfl _ _ _, _, _, rfl, (World.putObj_heap_other (fun e => hDb e.symm)).trans m2, hrq.kept fun g hg => World.putObj_heap_other (by rintro rfl; exact rowd hg), by omega, below_put ?_ (by omega) _⟩
    refine ⟨hgr.os.trans h6.os, hgr.tape.trans h6.tape, hgr.output.trans h6.output, Nat.le_trans h6.size hgr.size, fun k hk => (hgr.block k (by have := h6.size; omega) (fun e => ?_)).trans (h6.block k hk)⟩
    have := hfar k e.symm
    omega
  case stop =>
    rintro D c pre V hD hSp hx hK
    exact hx.elim
end Go.Proofs.YtompifmfgjenlaaGreat.VI
