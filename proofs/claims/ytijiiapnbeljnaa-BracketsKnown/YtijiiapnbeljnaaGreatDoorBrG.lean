/-
  gather of package brackets, over whatever iterator tells the rows.
-/
import Derived.Test.YtijiiapnbeljnaaGreatDoorBrK
namespace Go.Proofs.YtijiiapnbeljnaaGreatDoor
open Go.RowKit Go.PlainAid Go.Lib Go.Shelf Go.Seq4
attribute [local go_sem] Oper.semAt_some
set_option linter.unusedVariables false
set_option linter.unusedSimpArgs false

theorem refuse_fin {w V : World} {B0 : Nat} {no why : Int} {pre : List ItD} (q1 : Boxed V w.heap.size 27 (.pointer none)) (q2 : Boxed V (w.heap.size + 1) 45 .nilIface) (h8 : Below w.heap.size w V) (hsn : bad1 [] pre = some (no, why)) :
    ∃ A, V.setCell ⟨w.heap.size + 1, 0, none⟩ (.iface 70 (.pointer (some ⟨V.heap.size, 0, none⟩))) = A ∧ A.heap.size = V.heap.size ∧ KeepsFrom B0 V (A.alloc (.cells #[.int .i64 no, .int .i64 why] 74)).drew ∧ GX w .ret pre (A.alloc (.cells #[.int .i64 no, .int .i64 why] 74)).drew := by
  refine ⟨_, rfl, by simp, ?_⟩
  have hA1 := KeepsOthers.setCell V ⟨w.heap.size + 1, 0, none⟩ (.iface 70 (.pointer (some ⟨V.heap.size, 0, none⟩)))
  have hA2 := q1.other (B' := w.heap.size + 1) (by omega) (.iface 70 (.pointer (some ⟨V.heap.size, 0, none⟩)))
  have hA3 := q2.set (.iface 70 (.pointer (some ⟨V.heap.size, 0, none⟩)))
  have hA4 := h8.setCell (p := ⟨w.heap.size + 1, 0, none⟩) (by simp) (.iface 70 (.pointer (some ⟨V.heap.size, 0, none⟩)))
  generalize hA : V.setCell ⟨w.heap.size + 1, 0, none⟩ (.iface 70 (.pointer (some ⟨V.heap.size, 0, none⟩))) = A at *
  have hA0 : A.heap.size = V.heap.size := by rw [← hA]; simp
  have hk := hA1.trans (KeepsOthers.alloc A (.cells #[.int .i64 no, .int .i64 why] 74))
  have hnew := heap_alloc_new A (.cells #[.int .i64 no, .int .i64 why] 74)
  rw [hA0] at hnew
  exact ⟨⟨hk.size, fun k o _ => hk.same k o⟩, rfl, no, why, V.heap.size, hsn, hA2.alloc _, hA3.alloc _, h8.size, hnew, (hA4.alloc hA4.size _).trans ⟨rfl, rfl, rfl, Nat.le_refl _, fun _ _ => rfl⟩⟩

theorem refuse_fin2 {w V : World} {no why : Int} (q1 : Boxed V w.heap.size 27 (.pointer none)) (q2 : Boxed V (w.heap.size + 1) 45 .nilIface) (h8 : Below w.heap.size w V) :
    ∃ A, V.setCell ⟨w.heap.size + 1, 0, none⟩ (.iface 70 (.pointer (some ⟨V.heap.size, 0, none⟩))) = A ∧ A.heap.size = V.heap.size ∧ KeepsFrom 0 V (A.alloc (.cells #[.int .i64 no, .int .i64 why] 74)).drew ∧ Boxed (A.alloc (.cells #[.int .i64 no, .int .i64 why] 74)).drew w.heap.size 27 (.pointer none) ∧ Boxed (A.alloc (.cells #[.int .i64 no, .int .i64 why] 74)).drew (w.heap.size + 1) 45 (.iface 70 (.pointer (some ⟨V.heap.size, 0, none⟩))) ∧ (A.alloc (.cells #[.int .i64 no, .int .i64 why] 74)).drew.heap[V.heap.size]? = some (.cells #[.int .i64 no, .int .i64 why] 74 (0, 0)) ∧ Below w.heap.size w (A.alloc (.cells #[.int .i64 no, .int .i64 why] 74)).drew := by
  refine ⟨_, rfl, by simp, ?_⟩
  have hA1 := KeepsOthers.setCell V ⟨w.heap.size + 1, 0, none⟩ (.iface 70 (.pointer (some ⟨V.heap.size, 0, none⟩)))
  have hA2 := q1.other (B' := w.heap.size + 1) (by omega) (.iface 70 (.pointer (some ⟨V.heap.size, 0, none⟩)))
  have hA3 := q2.set (.iface 70 (.pointer (some ⟨V.heap.size, 0, none⟩)))
  have hA4 := h8.setCell (p := ⟨w.heap.size + 1, 0, none⟩) (by simp) (.iface 70 (.pointer (some ⟨V.heap.size, 0, none⟩)))
  generalize hA : V.setCell ⟨w.heap.size + 1, 0, none⟩ (.iface 70 (.pointer (some ⟨V.heap.size, 0, none⟩))) = A at *
  have hA0 : A.heap.size = V.heap.size := by rw [← hA]; simp
  have hk := hA1.trans (KeepsOthers.alloc A (.cells #[.int .i64 no, .int .i64 why] 74))
  have hnew := heap_alloc_new A (.cells #[.int .i64 no, .int .i64 why] 74)
  rw [hA0] at hnew
  exact ⟨⟨hk.size, fun k o _ => hk.same k o⟩, hA2.alloc _, hA3.alloc _, hnew, (hA4.alloc hA4.size _).trans ⟨rfl, rfl, rfl, Nat.le_refl _, fun _ _ => rfl⟩⟩

theorem take_none {p : ItD → Bool} {l : List ItD} {i : Nat} {x : ItD} (h : ∀ t ∈ l.take i, p t = false) (hx : l[i]? = some x) (hp : p x = true) : l.find? p = some x := by
  have e : l = l.take i ++ x :: l.drop (i + 1) := by
    have hil := (List.getElem?_eq_some_iff.1 hx).1
    rw [← (List.getElem?_eq_some_iff.1 hx).2]
    simp
  rw [e, List.find?_append, List.find?_eq_none.2 (fun t ht => by simp [h t ht])]
  simp [hp]
theorem take_snoc {p : ItD → Bool} {l : List ItD} {i : Nat} {x : ItD} (h : ∀ t ∈ l.take i, p t = false) (hx : l[i]? = some x) (hp : p x = false) : ∀ t ∈ l.take (i + 1), p t = false := by
  intro t ht
  rw [List.take_add_one, hx] at ht
  simp only [Option.toList_some, List.mem_append, List.mem_singleton] at ht
  rcases ht with ht | rfl
  · exact h t ht
  · exact hp

set_option maxRecDepth 100000 in
set_option maxHeartbeats 4000000 in
theorem gather_any (g : Nat) (lb : Array Value) (items : List ItD) (mm : Nat) (bs : Nat → Prop) (w : World) (eg : ∀ args w, (callFunc g args).run Tryz.prog w = .ok (.enter g args) w) (hbs : ∀ k, bs k → k < w.heap.size)
    (hseq : ∀ n, 12 ≤ n → Gives4 n Tryz.prog g lb itE mm bs 0 0 (fun xs => xs = items) (fun pre => pre <+: items) w) (hok : ∀ t ∈ items, BrOk t.row) (hlen : items.length ≤ 1099511627776) :
    Calls Tryz.prog 28 #[.func (.func g) #[] lb] w fun e w' => Below w.heap.size w w' ∧
      ((gathP items = none ∧ ∃ B, e = .returned (.tuple #[.pointer (some ⟨B, 0, none⟩), .nilIface]) ∧ Book w' B (items.map (·.row)) [] ∧ w.heap.size ≤ B) ∨
       (∃ no why rb, gathP items = some (no, why) ∧ e = .returned (.tuple #[.pointer none, .iface 70 (.pointer (some ⟨rb, 0, none⟩))]) ∧ w.heap.size ≤ rb ∧ w'.heap[rb]? = some (.cells #[.int .i64 no, .int .i64 why] 74 (0, 0)))) := by
  obtain ⟨W0, hW0⟩ : ∃ W0, (((((w.alloc (Obj.cells #[Value.pointer none] 27)).alloc (Obj.cells #[Value.nilIface] 45)).alloc (Obj.map #[] 0)).alloc (Obj.cells #[Value.map (some (w.heap.size + 1 + 1)), Value.map none] 85)).alloc (Obj.cells #[Value.pointer (some { block := w.heap.size + 1 + 1 + 1, off := 0 })] 27)).alloc (Obj.cells #[Value.slice none 0 0] 122) = W0 := ⟨_, rfl⟩
  have hs0 : W0.heap.size = w.heap.size + 6 := by rw [← hW0]; simp
  have hb0 : Below w.heap.size w W0 := by rw [← hW0]; exact ((((((Below.refl _ w).alloc (Nat.le_refl _) _).alloc (by simp) _).alloc (by simp; omega) _).alloc (by simp; omega) _).alloc (by simp; omega) _).alloc (by simp; omega) _
  have hI0 : GI w (W0.heap.size + 2 + mm) [] W0 := by
    refine ⟨rfl, ⟨_, ?_, rfl, .inl ⟨rfl, rfl⟩⟩, ?_, ?_, ?_, ?_, ?_, hb0⟩
    · rw [← hW0]; simpa using heap_alloc_new (((((w.alloc (Obj.cells #[Value.pointer none] 27)).alloc (Obj.cells #[Value.nilIface] 45)).alloc (Obj.map #[] 0)).alloc (Obj.cells #[Value.map (some (w.heap.size + 1 + 1)), Value.map none] 85)).alloc (Obj.cells #[Value.pointer (some { block := w.heap.size + 1 + 1 + 1, off := 0 })] 27)) (Obj.cells #[Value.slice none 0 0] 122)
    · rw [← hW0]; exact (Below.heap_alloc _ _ _ (by simp <;> omega)).trans ((Below.heap_alloc _ _ _ (by simp <;> omega)).trans ((Below.heap_alloc _ _ _ (by simp <;> omega)).trans ((Below.heap_alloc _ _ _ (by simp <;> omega)).trans ((Below.heap_alloc _ _ _ (by simp <;> omega)).trans (heap_alloc_new w _)))))
    · rw [← hW0]; exact (Below.heap_alloc _ _ _ (by simp <;> omega)).trans ((Below.heap_alloc _ _ _ (by simp <;> omega)).trans ((Below.heap_alloc _ _ _ (by simp <;> omega)).trans ((Below.heap_alloc _ _ _ (by simp <;> omega)).trans (by simpa using heap_alloc_new (w.alloc (Obj.cells #[Value.pointer none] 27)) (Obj.cells #[Value.nilIface] 45)))))
    · rw [← hW0]; exact (Below.heap_alloc _ _ _ (by simp <;> omega)).trans ((Below.heap_alloc _ _ _ (by simp <;> omega)).trans (by simpa using heap_alloc_new (((w.alloc (Obj.cells #[Value.pointer none] 27)).alloc (Obj.cells #[Value.nilIface] 45)).alloc (Obj.map #[] 0)) (Obj.cells #[Value.map (some (w.heap.size + 1 + 1)), Value.map none] 85)))
    · rw [← hW0]; exact (Below.heap_alloc _ _ _ (by simp <;> omega)).trans (by simpa using heap_alloc_new ((((w.alloc (Obj.cells #[Value.pointer none] 27)).alloc (Obj.cells #[Value.nilIface] 45)).alloc (Obj.map #[] 0)).alloc (Obj.cells #[Value.map (some (w.heap.size + 1 + 1)), Value.map none] 85)) (Obj.cells #[Value.pointer (some { block := w.heap.size + 1 + 1 + 1, off := 0 })] 27))
    · have hnew : BrMap (((w.alloc (Obj.cells #[Value.pointer none] 27)).alloc (Obj.cells #[Value.nilIface] 45)).alloc (Obj.map #[] 0)) (w.heap.size + 1 + 1) [] := by simpa using BrMap.new ((w.alloc (Obj.cells #[Value.pointer none] 27)).alloc (Obj.cells #[Value.nilIface] 45))
      rw [← hW0]
      exact ((hnew.below (below_alloc _ _)).below (below_alloc _ _)).below (below_alloc _ _)
  obtain ⟨i0, hi0, hz0, hz1, hz2⟩ := info_parts infoIt
  refine (callsIn_wide (n := 16)).1 ?_
  refine callsIn_of_wp_marks Tryz.func28 rfl trivial ?_ rfl
  simp only [Tryz.ntmps28, List.size_toArray, List.length_cons, List.length_nil, Nat.reduceAdd, Nat.reduceSub, Array.replicate_succ, Array.replicate_zero, List.push_toArray, List.append_toArray, List.nil_append, List.cons_append]
  have hF : ∀ f, Fence.wide.fn f := fun _ => trivial
  have hmm := @run_makeMap Tryz.prog
  gi_wp2_with fail
  clear hW0
  refine range4B (by omega) (gf := g) (lb := lb) rfl eg (hseq _ (by omega)) hb0 (fun _ => rfl)
    (GI w (W0.heap.size + 2 + mm)) (GX w) (own_GI w _ (by omega)) (fun c => own_GX w c (by omega)) (CalmR.none _ _ _) hI0
    (fun x => .cells (itC x).toArray 124 (0, 0)) (fun _ => rfl) ?fr ?assign ?body ?done ?stop
  case assign =>
    intro l2 x V K hK
    gi_wp2
    generalize hBx : V.heap.size = Bx
    exact hK Bx hBx.symm
  case body =>
    rintro l2 pre x Bx V hl hsz2 ⟨r, hr⟩ ⟨hok1, ⟨vs, h1, h2⟩, h3, h4, h5, h6, h7, h8⟩ hx1 hx2 hSp
    obtain ⟨no, ⟨xa, xo, xs⟩, why⟩ := x
    have bX : Blk V Bx (itC ⟨no, ⟨xa, xo, xs⟩, why⟩) 124 := hx1
    have hpl : pre.length + 1 ≤ 1099511627776 := by have := hSp.length_le; simp only [List.length_append, List.length_cons, List.length_nil] at this; omega
    have hxok : BrOk ⟨xa, xo, xs⟩ := hok _ (hSp.subset (List.mem_append_right _ (List.mem_singleton.2 rfl)))
    obtain ⟨sa, sn, sc, rfl⟩ : ∃ a n c, vs = .slice a n c := by
      rcases h2.2 with ⟨rfl, _⟩ | ⟨g, cap, cur, rfl, _⟩
      · exact ⟨_, _, _, rfl⟩
      · exact ⟨_, _, _, rfl⟩
    have hbk : Book V (w.heap.size + 1 + 1 + 1) (pre.map (·.row)) [] := ⟨_, _, h5, h7, .inl ⟨rfl, rfl⟩⟩
    have hsn := bad1_snoc [] pre ⟨no, ⟨xa, xo, xs⟩, why⟩ hok1
    simp only [List.nil_append] at hsn
    have p6 : Boxed V (w.heap.size + 1 + 1 + 1 + 1) 27 (.pointer (some ⟨w.heap.size + 1 + 1 + 1, 0, none⟩)) := h6
    have p3 : Boxed V w.heap.size 27 (.pointer none) := h3
    have p4 : Boxed V (w.heap.size + 1) 45 .nilIface := h4
    have c6 := p6.cell
    by_cases hy : why = 0
    · subst hy
      have hbo : badOf (pre.map (·.row)) ⟨no, ⟨xa, xo, xs⟩, 0⟩ = addE (pre.map (·.row)) ⟨xa, xo, xs⟩ := by simp [badOf]
      rw [hbo] at hsn
      have cx0 := bX.cell (j := 0) rfl
      have cx1 := bX.cell (j := 1) rfl
      have cx2 := bX.cell (j := 2) rfl
      have cx3 := bX.cell (j := 3) rfl
      by_cases hE : addE (pre.map (·.row)) ⟨xa, xo, xs⟩ = 0
      · rw [if_pos hE] at hsn
        have HA := hide (add_yes (w.heap.size + 1 + 1 + 1) (w.heap.size + 1 + 1) (.map none) (pre.map (·.row)) ⟨xa, xo, xs⟩ hxok V h5 h7 hE (by rw [List.length_map]; unfold maxLen; omega))
        have H1 : Hid (∀ w1, ButB (w.heap.size + 1 + 1) V w1 → w1.heap[w.heap.size + 1 + 1 + 1 + 1 + 1]? = some (.cells #[.slice sa sn sc] 122 (0, 0)) ∧ w1.ownsRow (W0.heap.size + 2 + mm) 124 4 (.slice sa sn sc) pre.length (itsC pre) ∧ Blk w1 Bx (itC ⟨no, ⟨xa, xo, xs⟩, 0⟩) 124) := fun w1 hb =>
          ⟨(hb.block _ (Array.getElem?_eq_some_iff.1 h1).1 (by omega)).trans h1, row_keptB h2 fun gg cur hh hge _ => hb.block gg (Array.getElem?_eq_some_iff.1 hh).1 (by omega), bX.butB hb (by omega)⟩
        have HK := hide (⟨h3, h4, h5, h6, h7, h8⟩ : _ ∧ _ ∧ _ ∧ _ ∧ _ ∧ _)
        have HSN := hide hsn
        have lV : w.heap.size + 6 ≤ V.heap.size := by omega
        clear h1 h2 h3 h4 h5 h6 h7 h8 hsn hbo hE hbk p3 p4 p6 hx1 bX hok1 hSp
        gi_wp2_with (first | (gi_at_call 55; with_reducible refine CallsIn.mono (CallsIn.inRound _ (callsIn_wide.2 (unhide HA))) ?_; rintro e w1 ⟨rfl, hbm, hbt⟩; obtain ⟨h1, h2, bX⟩ := unhide H1 w1 hbt; have cy0 := bX.cell (j := 0) rfl; have cy1 := bX.cell (j := 1) rfl; have cy2 := bX.cell (j := 2) rfl; have cy3 := bX.cell (j := 3) rfl; have cF : w1.cell? ⟨w.heap.size + 1 + 1 + 1 + 1 + 1, 0, none⟩ = some (.slice sa sn sc) := (by simp [World.cell?, h1]); have hsz := hbt.size) | (gi_at_builtin; refine wpListIn_append_own _ rfl _ _ 122 rfl (W0.heap.size + 2 + mm) 124 i0 (.agg #[.int .i64 0, .int .i32 0, .int .i32 0, .int .u8 0]) 4 24 Tryz.underlying122 hi0 hz0 hz1 hz2 rfl (by decide) _ _ _ rfl (h2.alloc _) ⟨w1.heap.size, 0, none⟩ 1 1 (itC ⟨no, ⟨xa, xo, xs⟩, 0⟩) rfl rfl (cells_new _ _ _) (by simp [Value.oneCell']) (by unfold maxLen; omega) (by omega) (by simp; omega) ?_; intro v' w7 hown' hgrow _; obtain ⟨g', cap', rfl⟩ := ownsRow_succ hown'; obtain ⟨q5, hbx', hrow', ko, hs', hkeep, hos⟩ := box_put h1 h2 (by omega) hown' hgrow; have c5 : w7.cell? ⟨w.heap.size + 1 + 1 + 1 + 1 + 1, 0, none⟩ = some (.slice sa sn sc) := (by simp [World.cell?, q5]); have f5 : w7.frozen? ⟨w.heap.size + 1 + 1 + 1 + 1 + 1, 0, none⟩ = false := (by simp [World.frozen?, q5])))
        obtain ⟨h3, h4, h5, h6, h7, h8⟩ := unhide HK
        have all : ∀ k, k < V.heap.size → k ≠ w.heap.size + 1 + 1 → k ≠ w.heap.size + 1 + 1 + 1 + 1 + 1 → k < W0.heap.size + 2 + mm → (w7.setCell ⟨w.heap.size + 1 + 1 + 1 + 1 + 1, 0, none⟩ (.slice (some ⟨g', 0, none⟩) (pre.length + 1) cap')).heap[k]? = V.heap[k]? := fun k k1 k2 k3 k4 => (hkeep k (by omega) k3 k4).trans (hbt.block k k1 k2)
        refine ⟨⟨Nat.le_trans hsz (Nat.le_trans (Nat.le_succ _) hs'), fun k o hk ho hc => ko.same k o ((hbt.block k (Array.getElem?_eq_some_iff.1 ho).1 (by omega)).trans ho) hc⟩, ⟨⟨Nat.le_trans hsz (Nat.le_trans (Nat.le_succ _) hs')⟩, fun k ob hk hc hx => ?_⟩, unhide HSN, ⟨_, hbx', ?_⟩, (all _ (by omega) (by omega) (by omega) (by omega)).trans h3, (all _ (by omega) (by omega) (by omega) (by omega)).trans h4, (all _ (by omega) (by omega) (by omega) (by omega)).trans h5, (all _ (by omega) (by omega) (by omega) (by omega)).trans h6, ?_, ?_⟩
        · have hkV := (Array.getElem?_eq_some_iff.1 hx).1
          refine (all k hkV ?_ ?_ ?_).trans hx
          · rcases hk with hk | hk
            · omega
            · have := hbs k hk; omega
          · rcases hk with hk | hk
            · omega
            · have := hbs k hk; omega
          · rcases hk with hk | hk
            · omega
            · have := hbs k hk; omega
        · rw [itsC_snoc, List.length_append]
          exact hrow'
        · rw [List.map_append, List.map_singleton]
          exact hbm.same (hkeep _ (by omega) (by omega) (by omega))
        · exact ⟨hos.1.trans (hbt.os.trans h8.os), hos.2.1.trans (hbt.tape.trans h8.tape), hos.2.2.trans (hbt.output.trans h8.output), Nat.le_trans h8.size (by omega), fun k hk => (all k (by omega) (by omega) (by omega) (by omega)).trans (h8.block k hk)⟩
      · rw [if_neg hE] at hsn
        have HA := hide (add_no (w.heap.size + 1 + 1 + 1) (pre.map (·.row)) [] ⟨xa, xo, xs⟩ hxok V hbk hE)
        obtain ⟨ee, hee⟩ : ∃ ee, addE (pre.map (·.row)) ⟨xa, xo, xs⟩ = ee := ⟨_, rfl⟩
        rw [hee] at hsn hE HA
        have dC : (ee != 0) = true := by simpa using hE
        have dC2 : (ee == 0) = false := by simpa using hE
        have H1 : Hid (∀ w1, Below V.heap.size V w1 → Boxed w1 w.heap.size 27 (.pointer none) ∧ Boxed w1 (w.heap.size + 1) 45 .nilIface ∧ Blk w1 Bx (itC ⟨no, ⟨xa, xo, xs⟩, 0⟩) 124 ∧
            ∃ A, w1.setCell ⟨w.heap.size + 1, 0, none⟩ (.iface 70 (.pointer (some ⟨w1.heap.size, 0, none⟩))) = A ∧ KeepsFrom W0.heap.size V (A.alloc (.cells #[.int .i64 no, .int .i64 ee] 74)).drew ∧ GX w .ret (pre ++ [⟨no, ⟨xa, xo, xs⟩, 0⟩]) (A.alloc (.cells #[.int .i64 no, .int .i64 ee] 74)).drew) := fun w1 hb => by
          have q1 : Boxed w1 w.heap.size _ _ := (hb.block _ p3.lt).trans p3
          have q2 : Boxed w1 (w.heap.size + 1) _ _ := (hb.block _ p4.lt).trans p4
          obtain ⟨A, hA, _, hk, hx⟩ := refuse_fin (B0 := W0.heap.size) q1 q2 (h8.trans (hb.mono h8.size)) hsn
          exact ⟨q1, q2, bX.below hb, A, hA, KeepsFrom.trans ⟨hb.size, fun k o _ ho _ => (hb.block k (Array.getElem?_eq_some_iff.1 ho).1).trans ho⟩ hk, hx⟩
        clear h1 h2 h3 h4 h5 h6 h7 h8 hsn hbo hE hbk p3 p4 p6 hx1 bX hok1 hSp hee
        gi_wp2_with (gi_at_call 55; with_reducible refine CallsIn.mono (CallsIn.inRound _ (callsIn_wide.2 (unhide HA))) ?_; rintro e w1 ⟨rfl, hb1⟩; obtain ⟨q1, q2, bX, A, hA, hkf, hgx⟩ := unhide H1 w1 hb1; have hse := set_sameB q1; have hse1 := (fun o => set_sameB (q1.alloc o)); have z1 := q1.cell; have z2 := q2.cell; have y1 := q1.frozen; have y2 := q2.frozen; have l1 := q1.lt; have l2' := q2.lt; have lX := bX.lt; have g1 := (fun o => (q1.alloc o).cell); have g2 := (fun o => (q2.alloc o).cell); have k1 := (fun o => (q1.alloc o).frozen); have k2 := (fun o => (q2.alloc o).frozen); have x0 := (fun o => (bX.alloc o).cell (j := 0) rfl); have x00 := bX.cell (j := 0) rfl; have HFN := hide (⟨hkf, hgx⟩ : _ ∧ _); have HAA := hide hA; clear hA hkf hgx q1 q2 bX hb1)
        gi_region
        all_goals gi_wp2
        all_goals (rw [unhide HAA]; exact unhide HFN)
    · have hbo : badOf (pre.map (·.row)) ⟨no, ⟨xa, xo, xs⟩, why⟩ = why := by simp [badOf, hy]
      rw [hbo, if_neg hy] at hsn
      have dC : (why != 0) = true := by simpa using hy
      have dC2 : (why == 0) = false := by simpa using hy
      obtain ⟨A, hA, _, hkf, hgx⟩ := refuse_fin (B0 := W0.heap.size) p3 p4 h8 hsn
      have hse := set_sameB p3
      have hse1 := fun o => set_sameB (p3.alloc o)
      have z1 := p3.cell
      have z2 := p4.cell
      have y1 := p3.frozen
      have y2 := p4.frozen
      have l1 := p3.lt
      have l2' := p4.lt
      have lX := bX.lt
      have g1 := fun o => (p3.alloc o).cell
      have g2 := fun o => (p4.alloc o).cell
      have k1 := fun o => (p3.alloc o).frozen
      have k2 := fun o => (p4.alloc o).frozen
      have x0 := fun o => (bX.alloc o).cell (j := 0) rfl
      have x00 := bX.cell (j := 0) rfl
      have HFN := hide (⟨hkf, hgx⟩ : _ ∧ _)
      have HAA := hide hA
      clear hA hkf hgx h1 h2 h3 h4 h5 h6 h7 h8 hsn hbo hbk p3 p4 p6 hx1 bX hok1 hSp
      gi_wp2
      gi_region
      all_goals gi_wp2
      all_goals (rw [unhide HAA]; exact unhide HFN)
  case done =>
    rintro D xs V hD hS ⟨e1, ⟨v, e2, e3⟩, e4, e5, e6, e7, e8, e9⟩ hK
    subst hS
    obtain ⟨la, lc, rfl, hlc, hmem⟩ := its_mem e3
    have hbk : Book V (w.heap.size + 1 + 1 + 1) (xs.map (·.row)) [] := ⟨_, _, e6, e8, .inl ⟨rfl, rfl⟩⟩
    have hgb : gathP xs = bad2 (xs.map (·.row)) xs := by unfold gathP; rw [e1]
    obtain ⟨NN, hNN⟩ : ∃ NN, xs.length = NN := ⟨_, rfl⟩
    rw [hNN] at e2 hlen
    have p5 : Boxed V (w.heap.size + 1 + 1 + 1 + 1 + 1) 122 (.slice la NN lc) := e2
    have p4 : Boxed V (w.heap.size + 1 + 1 + 1 + 1) 27 (.pointer (some ⟨w.heap.size + 1 + 1 + 1, 0, none⟩)) := e7
    have p0 : Boxed V w.heap.size 27 (.pointer none) := e4
    have p1 : Boxed V (w.heap.size + 1) 45 .nilIface := e5
    have HNN := hide hNN
    have c5 := p5.cell
    have HMEM := hide hmem
    have HBK := hide hbk
    have HGB := hide hgb
    have HP4 := hide p4
    have HP0 := hide p0
    have HP1 := hide p1
    have HE9 := hide e9
    clear hNN e1 e2 e3 e4 e5 e6 e7 e8 e9 hmem hbk hgb p5 p4 p0 p1
    gi_wp2
    gi_loopw [36] (fun v36 wr => ∃ i : Nat, v36 = .int .i64 i ∧ i ≤ NN ∧ Hid (∀ t ∈ xs.take i, loneP (xs.map (·.row)) t.row = false) ∧ Below V.heap.size V wr) (fun v36 _ => NN - (RowKit.intOf v36).toNat)
    case atStart => exact ⟨0, rfl, Nat.zero_le _, by show ∀ t ∈ _, _; simp, Below.refl _ _⟩
    case round =>
      obtain ⟨i, rfl, hi, HL, hb⟩ := hrel
      by_cases hlt : i < NN
      · obtain ⟨x, hx⟩ : ∃ x, xs[i]? = some x := ⟨_, List.getElem?_eq_getElem (by rw [unhide HNN]; exact hlt)⟩
        obtain ⟨gq, off, rfl, hc⟩ := ((unhide HMEM).below hb) i x hx
        have cx0 := hc 0 _ rfl
        have cx1 := hc 1 _ rfl
        have cx2 := hc 2 _ rfl
        have cx3 := hc 3 _ rfl
        simp only [Nat.add_zero] at cx0
        have hlt' : (i : Int) < (NN : Int) := by omega
        have hq1 : IntKind.i64.wrap ((i : Int) + 1) = (i : Int) + 1 := by rw [IntKind.wrap_i64]; omega
        have hxk : BrOk x.row := hok x (List.mem_of_getElem? hx)
        obtain ⟨no, ⟨xa, xo, xd⟩, why⟩ := x
        simp only at cx0 cx1 cx2 cx3
        obtain ⟨W1, hW1⟩ : ∃ W1, wr.alloc (.cells #[.int .i64 no, .int .i32 xa, .int .i32 xo, .int .u8 xd] 124) = W1 := ⟨_, rfl⟩
        have hb1 : Below wr.heap.size wr W1 := by rw [← hW1]; exact below_alloc _ _
        have bX : Blk W1 wr.heap.size [.int .i64 no, .int .i32 xa, .int .i32 xo, .int .u8 xd] 124 := by rw [← hW1]; exact Blk.new wr [.int .i64 no, .int .i32 xa, .int .i32 xo, .int .u8 xd] _
        have hbV : Below V.heap.size V W1 := hb.trans (hb1.mono hb.size)
        have d0 := bX.cell (j := 0) rfl
        have d1 := bX.cell (j := 1) rfl
        have d2 := bX.cell (j := 2) rfl
        have d3 := bX.cell (j := 3) rfl
        have d4 : W1.cell? ⟨w.heap.size + 1 + 1 + 1 + 1, 0, none⟩ = some (.pointer (some ⟨w.heap.size + 1 + 1 + 1, 0, none⟩)) := Boxed.cell (t := 27) ((hbV.block _ (unhide HP4).lt).trans (unhide HP4))
        have HLO := hide (lone_book ⟨xa, xo, xd⟩ hxk (w.heap.size + 1 + 1 + 1) (xs.map (·.row)) [] W1 ((unhide HBK).below hbV))
        cases hlo : loneP (xs.map (·.row)) ⟨xa, xo, xd⟩ with
        | false =>
          rw [hlo] at HLO
          have HT := hide (take_snoc (unhide HL) hx hlo)
          have HBV := hide hbV
          clear hlo hc hx hbV hb1 bX HL
          gi_wp2_with (gi_at_call 56; with_reducible refine CallsIn.mono (callsIn_wide.2 (unhide HLO)) ?_; rintro e w2 ⟨rfl, hb2⟩)
          go_roundw
          case rel => exact ⟨i + 1, by simp, by omega, HT, (unhide HBV).trans (hb2.mono (unhide HBV).size)⟩
          case measure => simp [RowKit.intOf]; omega
        | true =>
          rw [hlo] at HLO
          have HT := hide (take_none (p := fun t => loneP (xs.map (·.row)) t.row) (unhide HL) hx hlo)
          have HQ : Hid (∀ w2, Below W1.heap.size W1 w2 → Boxed w2 w.heap.size 27 (.pointer none) ∧ Boxed w2 (w.heap.size + 1) 45 .nilIface ∧ Blk w2 wr.heap.size [.int .i64 no, .int .i32 xa, .int .i32 xo, .int .u8 xd] 124 ∧ Below w.heap.size w w2 ∧ w2.heap[D]? = some (.deferred (some []))) := fun w2 hb2 => by
            have hb3 := hbV.trans (hb2.mono hbV.size)
            exact ⟨(hb3.block _ (unhide HP0).lt).trans (unhide HP0), (hb3.block _ (unhide HP1).lt).trans (unhide HP1), bX.below hb2, (unhide HE9).trans (hb3.mono (unhide HE9).size), (hb3.block D (Array.getElem?_eq_some_iff.1 hK).1).trans hK⟩
          clear hlo hc hx hbV hb1 bX HL
          gi_wp2_with (gi_at_call 56; with_reducible refine CallsIn.mono (callsIn_wide.2 (unhide HLO)) ?_; rintro e w2 ⟨rfl, hb2⟩; obtain ⟨q1, q2, bX, hbw, hKD⟩ := unhide HQ w2 hb2; obtain ⟨A, hA, hAs, hkf, u1, u2, u3, u4⟩ := refuse_fin2 (no := no) (why := 82) q1 q2 hbw; have hse := set_sameB q1; have hse1 := (fun o => set_sameB (q1.alloc o)); have z1 := q1.cell; have z2 := q2.cell; have y1 := q1.frozen; have y2 := q2.frozen; have l1 := q1.lt; have l2' := q2.lt; have lX := bX.lt; have g1 := (fun o => (q1.alloc o).cell); have g2 := (fun o => (q2.alloc o).cell); have k1 := (fun o => (q1.alloc o).frozen); have k2 := (fun o => (q2.alloc o).frozen); have x0 := (fun o => (bX.alloc o).cell (j := 0) rfl); have x00 := bX.cell (j := 0) rfl; have HFN := hide (⟨hkf, u1, u2, u3, u4, hbw, hKD⟩ : _ ∧ _ ∧ _ ∧ _ ∧ _ ∧ _ ∧ _); have HAA := hide hA; clear hA hkf u1 u2 u3 u4 q1 q2 bX hb2 hbw hKD)
          gi_region
          all_goals gi_wp2
          all_goals rw [unhide HAA]
          all_goals
            obtain ⟨hkf, u1, u2, u3, u4, hbw, hKD⟩ := unhide HFN
            have hKX := hkf.same D _ (Nat.zero_le _) hKD rfl
            generalize (A.alloc (Obj.cells #[Value.int IntKind.i64 no, Value.int IntKind.i64 82] 74)).drew = X at *
            refine ⟨by simp, .inl ⟨_, _, rfl, run_takeDeferred hKX, ?_⟩⟩
            have v1 : Boxed (X.putObj D (.deferred none)) w.heap.size _ _ := (World.putObj_heap_other (by omega)).trans u1
            have v2 : Boxed (X.putObj D (.deferred none)) (w.heap.size + 1) _ _ := (World.putObj_heap_other (by omega)).trans u2
            have hne : w2.heap.size ≠ D := by
              intro e
              rw [e, hKX] at u3; cases u3
            have v3 : (X.putObj D (.deferred none)).heap[w2.heap.size]? = _ := (World.putObj_heap_other hne).trans u3
            have t1 := v1.cell
            have t2 := v2.cell
            exact ⟨.tuple #[.pointer none, .iface 70 (.pointer (some ⟨w2.heap.size, 0, none⟩))], by simp [results, Tryz.f28, go_sem, t1, t2], u4.grown (grownBy_putObj' X D _) u4.size (fun k e => by cases e; omega), .inr ⟨no, 82, w2.heap.size, by rw [unhide HGB, bad2, unhide HT]; rfl, rfl, hbw.size, v3⟩⟩
      · obtain rfl : i = NN := by omega
        have q4 : Boxed wr (w.heap.size + 1 + 1 + 1 + 1) _ _ := (hb.block _ (unhide HP4).lt).trans (unhide HP4)
        have q0 : Boxed wr w.heap.size _ _ := (hb.block _ (unhide HP0).lt).trans (unhide HP0)
        have q1 : Boxed wr (w.heap.size + 1) _ _ := (hb.block _ (unhide HP1).lt).trans (unhide HP1)
        have c4 := q4.cell
        have c0 := q0.cell
        have f0 := q0.frozen
        have g1 := q1.other (B' := w.heap.size) (by omega) (.pointer (some ⟨w.heap.size + 1 + 1 + 1, 0, none⟩))
        have c1 := g1.cell
        have f1 := g1.frozen
        have hse := set_sameB g1
        have g0 := q0.set (.pointer (some ⟨w.heap.size + 1 + 1 + 1, 0, none⟩))
        have hbw : Below w.heap.size w wr := (unhide HE9).trans (hb.mono (unhide HE9).size)
        have hBK := (unhide HBK).below hb
        have hKD : wr.heap[D]? = some (.deferred (some [])) := (hb.block D (Array.getElem?_eq_some_iff.1 hK).1).trans hK
        have HF1 := hide (⟨g0, g1, hbw, hBK, hKD⟩ : _ ∧ _ ∧ _ ∧ _ ∧ _)
        clear q4 q0 q1 g1 g0 hbw hBK hKD hb
        gi_wp2
        obtain ⟨g0, g1, hbw, hBK, hKD⟩ := unhide HF1
        have hbX := hbw.setCell (p := ⟨w.heap.size, 0, none⟩) (by simp) (.pointer (some ⟨w.heap.size + 1 + 1 + 1, 0, none⟩))
        have hKX : (wr.setCell ⟨w.heap.size, 0, none⟩ (.pointer (some ⟨w.heap.size + 1 + 1 + 1, 0, none⟩))).heap[D]? = some (.deferred (some [])) := (Below.heap_setCell _ _ _ _ (by simp; omega)).trans hKD
        have hBX : Book (wr.setCell ⟨w.heap.size, 0, none⟩ (.pointer (some ⟨w.heap.size + 1 + 1 + 1, 0, none⟩))) (w.heap.size + 1 + 1 + 1) (xs.map (·.row)) [] := by
          obtain ⟨m, tv, b1, b2, b3⟩ := hBK.ex
          have hm : m ≠ w.heap.size := by
            rintro rfl
            obtain ⟨es, c, hm, _⟩ := b2
            have : wr.heap[w.heap.size]? = _ := hm
            have c0' := c0
            simp [World.cell?, this] at c0'
          refine ⟨m, tv, (Below.heap_setCell _ _ _ _ (by show w.heap.size + 1 + 1 + 1 ≠ w.heap.size; omega)).trans b1, b2.same (Below.heap_setCell _ _ _ _ hm), ?_⟩
          rcases b3 with ⟨rfl, h⟩ | ⟨m2, rfl, h⟩
          · exact .inl ⟨rfl, h⟩
          · refine .inr ⟨m2, rfl, h.same (Below.heap_setCell _ _ _ _ ?_)⟩
            rintro rfl
            obtain ⟨es, c, hm, _⟩ := h
            have : wr.heap[w.heap.size]? = _ := hm
            have c0' := c0
            simp [World.cell?, this] at c0'
        generalize wr.setCell ⟨w.heap.size, 0, none⟩ (.pointer (some ⟨w.heap.size + 1 + 1 + 1, 0, none⟩)) = X at *
        refine ⟨by simp, .inl ⟨_, _, rfl, run_takeDeferred hKX, ?_⟩⟩
        have v1 : Boxed (X.putObj D (.deferred none)) w.heap.size _ _ := (World.putObj_heap_other (by omega)).trans g0
        have v2 : Boxed (X.putObj D (.deferred none)) (w.heap.size + 1) _ _ := (World.putObj_heap_other (by omega)).trans g1
        have t1 := v1.cell
        have t2 := v2.cell
        refine ⟨.tuple #[.pointer (some ⟨w.heap.size + 1 + 1 + 1, 0, none⟩), .nilIface], by simp [results, Tryz.f28, go_sem, t1, t2], hbX.grown (grownBy_putObj' X D _) hbX.size (fun k e => by cases e; omega), .inl ⟨?_, w.heap.size + 1 + 1 + 1, rfl, ?_, by omega⟩⟩
        · rw [unhide HGB, bad2, List.find?_eq_none.2 (fun t ht => by
            have hL := unhide HL t (by rw [← unhide HNN]; simpa using ht)
            simp [hL])]
          rfl
        · obtain ⟨m, tv, b1, b2, b3⟩ := hBX.ex
          have hDm : ∀ k o, X.heap[k]? = some o → (∀ l, o ≠ Obj.deferred l) → (X.putObj D (.deferred none)).heap[k]? = X.heap[k]? := fun k o hk ho => World.putObj_heap_other (by rintro rfl; rw [hKX] at hk; cases hk; exact ho _ rfl)
          refine ⟨m, tv, (hDm _ _ b1 (fun l e => by cases e)).trans b1, ?_, ?_⟩
          · obtain ⟨es, c, hm, hr⟩ := b2
            exact ⟨es, c, (hDm _ _ hm (fun l e => by cases e)).trans hm, hr⟩
          · rcases b3 with ⟨rfl, h⟩ | ⟨m2, rfl, h⟩
            · exact .inl ⟨rfl, h⟩
            · obtain ⟨es, c, hm, hr⟩ := h
              exact .inr ⟨m2, rfl, es, c, (hDm _ _ hm (fun l e => by cases e)).trans hm, hr⟩
  case stop =>
    rintro D c pre V hD hSp ⟨rfl, no, why, rb, e1, e4, e5, e6, e7, e8⟩ hK
    gi_wp2
    refine ⟨by simp, .inl ⟨_, _, rfl, run_takeDeferred hK, ?_⟩⟩
    have y1 : Boxed (V.putObj D (.deferred none)) w.heap.size _ _ := (World.putObj_heap_other (by omega)).trans e4
    have y2 : Boxed (V.putObj D (.deferred none)) (w.heap.size + 1) _ _ := (World.putObj_heap_other (by omega)).trans e5
    have hne : rb ≠ D := by
      intro e
      rw [e, hK] at e7; cases e7
    have y3 : (V.putObj D (.deferred none)).heap[rb]? = _ := (World.putObj_heap_other hne).trans e7
    have q1 := y1.cell
    have q2 := y2.cell
    exact ⟨.tuple #[.pointer none, .iface 70 (.pointer (some ⟨rb, 0, none⟩))], by simp [results, Tryz.f28, go_sem, q1, q2], e8.grown (grownBy_putObj' V D _) e8.size (fun k e => by cases e; omega), .inr ⟨no, why, rb, bad_front hSp e1, rfl, e6, y3⟩⟩
end Go.Proofs.YtijiiapnbeljnaaGreatDoor
