/-
  PointsNot: the law's walk.
-/
import Derived.Test.YtebppdcnfbflkaaPNotA
import Derived.BigFrameIn
import Derived.BigGuardIn
import Derived.BigRegionIn
namespace Go.Proofs.Ytebppdcnfbflkaa
open Go.RowKit Go.PlainAid Go.Lib Go.PRow Go.Shelf Go.Seq4 VF
attribute [local go_sem] Oper.semAt_some
set_option linter.unusedVariables false
set_option linter.unusedSimpArgs false

set_option maxRecDepth 100000 in
set_option maxHeartbeats 4000000 in
theorem not_walk (m : Int) (a b : Option Addr) (c d : Nat) (L : List (Int × Int)) (vl : List Nat) (w : World) (hm : w.cell? ⟨0, 0, none⟩ = some (.int .i64 m)) (hL : ReadsG w a L) (hT : ReadsF w b vl) :
    Calls Try.prog 5 #[.slice a L.length c, .slice b vl.length d] w fun e w' => e = .returned (.bool true) ∧ Below w.heap.size w w' := by
  have hmB : 0 < w.heap.size := World.block_lt_of_cell? _ _ hm
  obtain ⟨W1, hW1⟩ : ∃ W1, W1 = w.alloc (.cells #[.bool false] 4) := ⟨_, rfl⟩
  have hs1 : W1.heap.size = w.heap.size + 1 := by rw [hW1]; simp
  have hb1 : Below w.heap.size w W1 := by rw [hW1]; exact (Below.refl _ w).alloc (Nat.le_refl _) _
  have hx1 : W1.heap[w.heap.size]? = some (.cells #[.bool false] 4 (0, 0)) := by rw [hW1]; exact heap_alloc_new w _
  have HLV := hide (fun V (hV : Below w.heap.size w V) => lives_any m V ((hV.cell hmB).trans hm))
  refine (callsIn_wide (n := 10)).1 ?_
  refine callsIn_of_wp_marks Try.func5 rfl trivial ?_ rfl
  simp only [Try.ntmps5, List.size_toArray, List.length_cons, List.length_nil, Nat.reduceAdd, Nat.reduceSub, Array.replicate_succ, Array.replicate_zero, List.push_toArray, List.append_toArray, List.nil_append, List.cons_append]
  have hF : ∀ f, Fence.wide.fn f := fun _ => trivial
  obtain ⟨n, hn⟩ : ∃ n, n = L.length := ⟨_, rfl⟩
  obtain ⟨nv, hnv⟩ : ∃ nv, nv = vl.length := ⟨_, rfl⟩
  rw [← hn, ← hnv]
  have HN := hide hn
  have HNV := hide hnv
  clear hn hnv hm
  by_cases hbig : 40 < n
  · have hbi : (40 : Int) < (n : Int) := by omega
    gi_wp2_with fail
    rw [← hW1]
    clear hW1
    refine (callsIn_wide.2 (unhide HLV W1 hb1)).mono ?_
    rintro e V1 ⟨rfl, hv1⟩
    have hbV1 := hb1.trans (hv1.mono hb1.size)
    have hxV1 := (hv1.block _ (by omega)).trans hx1
    have q9 : V1.cell? ⟨w.heap.size, 0, none⟩ = some (.bool false) := by simp [World.cell?, hxV1]
    have f9 : V1.frozen? ⟨w.heap.size, 0, none⟩ = false := by simp [World.frozen?, hxV1]
    gi_wp2
    have k9 : (V1.setCell ⟨w.heap.size, 0, none⟩ (.bool true)).heap[w.heap.size]? = some (.cells #[.bool true] 4 (0, 0)) := by
      rw [setCell_eq_setRow V1 w.heap.size 0 _ _ _ _ hxV1]
      exact setRow_heap V1 w.heap.size _ _ _ _ hxV1
    refine ⟨.bool true, ?_, rfl, hbV1.setCell (by simp) _⟩
    simp [results, Try.results5, go_sem, World.cell?, k9]
  · have hbi : ¬ (40 : Int) < (n : Int) := by omega
    gi_wp2_with fail
    rw [← hW1]
    clear hW1
    refine (callsIn_wide.2 (unhide HLV W1 hb1)).mono ?_
    rintro e V1 ⟨rfl, hv1⟩
    have hbV1 := hb1.trans (hv1.mono hb1.size)
    have hxV1 := (hv1.block _ (by omega)).trans hx1
    gi_wp2_with (gi_at_call 22; refine (callsIn_wide.2 (new_any _)).mono ?_; rintro e w' ⟨rfl, rfl⟩)
    obtain ⟨W2, hW2⟩ : ∃ W2, (V1.alloc (.cells #[.bool true, .slice none 0 0] 112)).alloc (.cells #[.pointer (some ⟨V1.heap.size, 0, none⟩)] 54) = W2 := ⟨_, rfl⟩
    have hs2 : W2.heap.size = V1.heap.size + 2 := by rw [← hW2]; simp
    have hbV2 : Below V1.heap.size V1 W2 := by rw [← hW2]; exact ((Below.refl _ V1).alloc (Nat.le_refl _) _).alloc (by simp) _
    have ma : IsMap W2 V1.heap.size (.slice none 0 0) := by
      rw [← hW2]
      exact (Below.heap_alloc _ _ _ (by simp)).trans (heap_alloc_new V1 _)
    have bx : W2.heap[V1.heap.size + 1]? = some (.cells #[.pointer (some ⟨V1.heap.size, 0, none⟩)] 54 (0, 0)) := by
      rw [← hW2]; simpa using heap_alloc_new (V1.alloc (.cells #[.bool true, .slice none 0 0] 112)) (.cells #[.pointer (some ⟨V1.heap.size, 0, none⟩)] 54)
    have hbW2 := hbV1.trans (hbV2.mono hbV1.size)
    have hrs2 := (hbV2.block _ (by have := hv1.size; omega)).trans hxV1
    have hwa : w.heap.size < V1.heap.size := by have := hv1.size; omega
    rw [hW2]
    clear hW2 hbV2 hxV1 hv1 hbV1 hx1 hb1 hs1 HLV
    generalize V1.heap.size = ba at *
    have HRS := hide hrs2
    have HBX := hide bx
    have HL := hide hL
    have HT := hide hT
    clear hrs2 bx hL hT V1
    gi_loopw [6, 7] (fun v6 v7 wr => ∃ (i : Nat) (va : Value) (pa : List (Pc Nat)), v7 = .int .i64 i ∧ v6 = .int .i64 (sizeP pa) ∧ i ≤ n ∧ IsMap wr ba va ∧ RowP wr W2.heap.size va pa ∧ OkP pa ∧ VF.Chg (fun k => k = ba) W2 wr) (fun _ v7 _ => n - (RowKit.intOf v7).toNat)
    case atStart => exact ⟨0, _, [], rfl, rfl, Nat.zero_le _, ma, RowV.nil _ _ _ _ _, OkP.nil, chgF_refl _ _⟩
    case round =>
      obtain ⟨i, va, pa, rfl, rfl, hi, hma, hra, hok, hch⟩ := hrel
      have hbw : Below w.heap.size w wr := hch.below hbW2 (by have := hbW2.size; omega) (fun k e => by omega)
      have hsz := hch.size
      by_cases hlt : i < n
      · obtain ⟨⟨lo, hi'⟩, hp⟩ : ∃ p, L[i]? = some p := ⟨_, List.getElem?_eq_getElem (by have := unhide HN; omega)⟩
        obtain ⟨g, off, rfl, d0, d1⟩ := (unhide HL).below hbw i lo hi' hp
        have hlt' : (i : Int) < (n : Int) := by omega
        have q6 : IntKind.i64.wrap ((i : Int) + 1) = (i : Int) + 1 := by rw [IntKind.wrap_i64]; omega
        have hbxr : wr.heap[ba + 1]? = some (.cells #[.pointer (some ⟨ba, 0, none⟩)] 54 (0, 0)) := (hch.block _ (by omega) (by omega)).trans (unhide HBX)
        have cbr : wr.cell? ⟨ba + 1, 0, none⟩ = some (.pointer (some ⟨ba, 0, none⟩)) := by simp [World.cell?, hbxr]
        have HBXR := hide hbxr
        clear hp hbxr
        obtain ⟨bv, hbv⟩ : ∃ p, vl.getD i 0 = p := ⟨_, rfl⟩
        have hcase : (i < nv ∧ ∃ g2 off2, b = some ⟨g2, off2, none⟩ ∧ wr.cell? ⟨g2, off2 + i, none⟩ = some (.float .f64 bv)) ∨ (¬ i < nv ∧ bv = 0) := by
          by_cases hv : i < nv
          · exact .inl ⟨hv, (unhide HT).below hbw i bv (by rw [← hbv, List.getD_eq_getElem?_getD, List.getElem?_eq_getElem (by have := unhide HNV; omega)]; rfl)⟩
          · exact .inr ⟨hv, by rw [← hbv, List.getD_eq_getElem?_getD, List.getElem?_eq_none (by have := unhide HNV; omega)]; rfl⟩
        clear hbv
        have HP := hide (fun lo h2 x => not_put hok hma hra hch (by omega) (unhide HBX) lo h2 x)
        have hbd := size_bd hok
        have hwl : w.heap.size < W2.heap.size := by omega
        have cbx : ∀ x, (wr.alloc (.cells #[.int .i32 lo, .int .i32 x] 28)).cell? ⟨ba + 1, 0, none⟩ = some (.pointer (some ⟨ba, 0, none⟩)) := fun x => cell_alloc_sl _ cbr
        have HOK := hide hok
        clear hok hma hra hch hbw
        rcases hcase with ⟨hv, g2, off2, rfl, d2⟩ | ⟨hv, rfl⟩
        · have hv' : decide ((i : Int) < (nv : Int)) = true := decide_eq_true (by omega)
          refine wpIn_wide.2 ?_
          go_wp2_with (go_at_call 23; refine (unhide HP _ _ _).mono ?_; rintro e w5 ⟨z, rfl, hz⟩; rcases hz with ⟨rfl, hx, va', pa', q, l0, l1, l2, hbx5, hma', hra', hok', hsz', HAT, hch', e1, e2, y0, y1, y2, q1, q2, q3, q4⟩ | ⟨hz, hma', hra', hch'⟩)
          all_goals first
            | (go_roundw
               case rel => exact ⟨i + 1, va, pa, by go_num, rfl, by omega, hma', hra', unhide HOK, hch'⟩
               case measure => simp [RowKit.intOf]; omega)
            | skip
          all_goals
            generalize wr.heap.size = Bg at *
            go_loopw [10] (fun v10 wq => ∃ x : Int, v10 = .int .i32 x ∧ lo ≤ x ∧ x ≤ hx + 1 ∧ Below w5.heap.size w5 wq) (fun v10 _ => (hx + 1 - RowKit.intOf v10).toNat)
            case atStart => exact ⟨lo, rfl, Int.le_refl _, by omega, Below.refl _ _⟩
            case round =>
              obtain ⟨x, rfl, h1, h2, hbq⟩ := hrel
              have z1 := (hbq.cell (World.block_lt_of_cell? _ _ y1)).trans y1
              have z2 := (hbq.cell (World.block_lt_of_cell? _ _ y2)).trans y2
              by_cases hxx : x ≤ hx
              · have hA := at_any ba va' W2.heap.size pa' hok' x wr (hma'.below hbq) (hra'.below hbq)
                rw [unhide HAT x h1 hxx] at hA
                simp only [atV] at hA
                have HA := hide hA
                clear hA
                have q9 : IntKind.i32.wrap (x + 1) = x + 1 := by rw [IntKind.wrap_i32]; omega
                cases q
                all_goals
                  simp only [Bool.not_true, Bool.not_false] at e2
                  go_wp2_with (go_at_call 24; refine (unhide HA).mono ?_; rintro e w6 ⟨rfl, hb6⟩)
                  go_roundw
                  case rel => exact ⟨x + 1, by go_num, by omega, by omega, hbq.trans (hb6.mono hbq.size)⟩
                  case measure => simp [RowKit.intOf]; omega
              · go_wp2_with fail
                go_roundw
                case rel => exact ⟨i + 1, va', pa', by go_num, by rw [← hsz'], by omega, hma'.below hbq, hra'.below hbq, hok', chgF_below hch' hbq⟩
                case measure => simp [RowKit.intOf]; omega
        · have hv' : decide ((i : Int) < (nv : Int)) = false := decide_eq_false (by omega)
          refine wpIn_wide.2 ?_
          go_wp2_with (go_at_call 23; refine (unhide HP _ _ _).mono ?_; rintro e w5 ⟨z, rfl, hz⟩; rcases hz with ⟨rfl, hx, va', pa', q, l0, l1, l2, hbx5, hma', hra', hok', hsz', HAT, hch', e1, e2, y0, y1, y2, q1, q2, q3, q4⟩ | ⟨hz, hma', hra', hch'⟩)
          all_goals first
            | (go_roundw
               case rel => exact ⟨i + 1, va, pa, by go_num, rfl, by omega, hma', hra', unhide HOK, hch'⟩
               case measure => simp [RowKit.intOf]; omega)
            | skip
          all_goals
            generalize wr.heap.size = Bg at *
            go_loopw [10] (fun v10 wq => ∃ x : Int, v10 = .int .i32 x ∧ lo ≤ x ∧ x ≤ hx + 1 ∧ Below w5.heap.size w5 wq) (fun v10 _ => (hx + 1 - RowKit.intOf v10).toNat)
            case atStart => exact ⟨lo, rfl, Int.le_refl _, by omega, Below.refl _ _⟩
            case round =>
              obtain ⟨x, rfl, h1, h2, hbq⟩ := hrel
              have z1 := (hbq.cell (World.block_lt_of_cell? _ _ y1)).trans y1
              have z2 := (hbq.cell (World.block_lt_of_cell? _ _ y2)).trans y2
              by_cases hxx : x ≤ hx
              · have hA := at_any ba va' W2.heap.size pa' hok' x wr (hma'.below hbq) (hra'.below hbq)
                rw [unhide HAT x h1 hxx] at hA
                simp only [atV] at hA
                have HA := hide hA
                clear hA
                have q9 : IntKind.i32.wrap (x + 1) = x + 1 := by rw [IntKind.wrap_i32]; omega
                cases q
                all_goals
                  simp only [Bool.not_true, Bool.not_false] at e2
                  go_wp2_with (go_at_call 24; refine (unhide HA).mono ?_; rintro e w6 ⟨rfl, hb6⟩)
                  go_roundw
                  case rel => exact ⟨x + 1, by go_num, by omega, by omega, hbq.trans (hb6.mono hbq.size)⟩
                  case measure => simp [RowKit.intOf]; omega
              · go_wp2_with fail
                go_roundw
                case rel => exact ⟨i + 1, va', pa', by go_num, by rw [← hsz'], by omega, hma'.below hbq, hra'.below hbq, hok', chgF_below hch' hbq⟩
                case measure => simp [RowKit.intOf]; omega
      · have hin : i = n := by omega
        have hbxr : wr.heap[ba + 1]? = some (.cells #[.pointer (some ⟨ba, 0, none⟩)] 54 (0, 0)) := (hch.block _ (by omega) (by omega)).trans (unhide HBX)
        have hrs : wr.heap[w.heap.size]? = some (.cells #[.bool false] 4 (0, 0)) := (hch.block _ (by omega) (by omega)).trans (unhide HRS)
        have cbr : wr.cell? ⟨ba + 1, 0, none⟩ = some (.pointer (some ⟨ba, 0, none⟩)) := by simp [World.cell?, hbxr]
        have c1 : ((wr.alloc (.cells #[.int .i64 0] 3)).alloc (.cells #[.int .i32 (-1)] 21)).cell? ⟨ba + 1, 0, none⟩ = some (.pointer (some ⟨ba, 0, none⟩)) := cell_alloc_sl _ (cell_alloc_sl _ cbr)
        have c2 : (((wr.alloc (.cells #[.int .i64 0] 3)).alloc (.cells #[.int .i32 (-1)] 21)).alloc (.cells #[.pointer (some ⟨ba, 0, none⟩)] 54)).cell? ⟨ba + 1, 0, none⟩ = some (.pointer (some ⟨ba, 0, none⟩)) := cell_alloc_sl _ c1
        have hfn := fn_nilF 63
        have hbl := (Array.getElem?_eq_some_iff.1 hbxr).1
        have HRS3 := hide hrs
        have HSZ := hide (⟨hs2, hsz, hwa⟩ : W2.heap.size = ba + 2 ∧ W2.heap.size ≤ wr.heap.size ∧ w.heap.size < ba)
        have HBW := hide hbw
        clear hrs hch hbw hbxr HRS HBX
        subst hin
        have hnn : ¬ ((i : Int) < (i : Int)) := by omega
        gi_wp2_with (gi_at_call 25; with_reducible refine CallsIn.mono (callsIn_wide.2 (all_in ba _)) ?_; rintro e V7 ⟨rfl, rfl⟩)
        obtain ⟨W6, hW6⟩ : ∃ W6, (((wr.alloc (.cells #[.int .i64 0] 3)).alloc (.cells #[.int .i32 (-1)] 21)).alloc (.cells #[.pointer (some ⟨ba, 0, none⟩)] 54)).alloc (.cells #[.pointer (some ⟨ba, 0, none⟩)] 54) = W6 := ⟨_, rfl⟩
        have hb6 : Below wr.heap.size wr W6 := by rw [← hW6]; exact ((((Below.refl _ wr).alloc (Nat.le_refl _) _).alloc (by simp) _).alloc (by simp; omega) _).alloc (by simp; omega) _
        have hs6 : W6.heap.size = wr.heap.size + 4 := by rw [← hW6]; simp
        have o1 : W6.heap[wr.heap.size]? = some (.cells #[.int .i64 0] 3 (0, 0)) := by rw [← hW6]; exact (((Below.heap_alloc _ _ _ (by simp; omega)).trans (Below.heap_alloc _ _ _ (by simp; omega))).trans (Below.heap_alloc _ _ _ (by simp))).trans (heap_alloc_new wr _)
        have o2 : W6.heap[wr.heap.size + 1]? = some (.cells #[.int .i32 (-1)] 21 (0, 0)) := by rw [← hW6]; exact ((Below.heap_alloc _ _ _ (by simp)).trans (Below.heap_alloc _ _ _ (by simp))).trans (by simpa using heap_alloc_new (wr.alloc (.cells #[.int .i64 0] 3)) (.cells #[.int .i32 (-1)] 21))
        have o3 : W6.heap[wr.heap.size + 1 + 1 + 1]? = some (.cells #[.pointer (some ⟨ba, 0, none⟩)] 54 (0, 0)) := by rw [← hW6]; simpa using heap_alloc_new (((wr.alloc (.cells #[.int .i64 0] 3)).alloc (.cells #[.int .i32 (-1)] 21)).alloc (.cells #[.pointer (some ⟨ba, 0, none⟩)] 54)) (.cells #[.pointer (some ⟨ba, 0, none⟩)] 54)
        rw [hW6]
        clear hW6 c1 c2
        refine range4B (by omega) (gf := 63) (lb := #[.pointer (some ⟨wr.heap.size + 1 + 1 + 1, 0, none⟩)]) rfl (enters_of Try.func63 (by kernel_rfl) rfl)
          (all_gives pa hok _ (wr.heap.size + 1 + 1 + 1) ba va (by omega) W6 o3 (hma.below hb6) ((hra.below hb6).mono (Nat.zero_le _))) (Below.refl _ _) (fun _ => rfl)
          (fun pre V => V.heap[wr.heap.size]? = some (.cells #[.int .i64 (sizeP pre)] 3 (0, 0)) ∧ V.heap[wr.heap.size + 1]? = some (.cells #[.int .i32 (endP 0 pre - 1)] 21 (0, 0)) ∧ Below wr.heap.size wr V ∧ W6.heap.size ≤ V.heap.size)
          (fun c pre V => False)
          ((own_blockF _ _ _ (fun _ => rfl)).and ((own_blockF _ _ _ (fun _ => rfl)).and ((ownFrom_below (Nat.le_refl _) (by omega)).and (own_size _ _))))
          (fun c => own_pure _ _) (CalmR.none _ _ _) ⟨o1, o2, hb6, Nat.le_refl _⟩
          (fun x => .cells #[.int .i32 x.lo, .int .i32 x.hi] 28 (0, 0)) (fun _ => rfl) ?fr ?assign ?body ?done ?stop
        case assign =>
          intro l2 x V K hK
          gi_wp2
          generalize hBx : V.heap.size = Bx
          exact hK Bx hBx.symm
        case body =>
          rintro l2 pre x Bx V hl hsz2 ⟨r, hr⟩ ⟨hk, hla, h3, h4⟩ hx1 hx2 hSp
          obtain ⟨xl, xh, xv⟩ := x
          obtain ⟨t0, t1, t2, t3, t4, t5, t6, u, hu, hAt⟩ := not_told hok hSp
          simp only at hx1
          generalize hK0 : wr.heap.size = K0 at *
          have y0 : V.cell? ⟨Bx, 0, none⟩ = some (.int .i32 xl) := by simp [World.cell?, hx1]
          have y1 : V.cell? ⟨Bx, 1, none⟩ = some (.int .i32 xh) := by simp [World.cell?, hx1]
          have y2 : V.cell? ⟨K0 + 1, 0, none⟩ = some (.int .i32 (endP 0 pre - 1)) := by simp [World.cell?, hla]
          have f2 : V.frozen? ⟨K0 + 1, 0, none⟩ = false := by simp [World.frozen?, hla]
          have cbV : V.cell? ⟨ba + 1, 0, none⟩ = some (.pointer (some ⟨ba, 0, none⟩)) := (h3.cell (by show ba + 1 < K0; omega)).trans cbr
          have ltx := (Array.getElem?_eq_some_iff.1 hx1).1
          have ltk := (Array.getElem?_eq_some_iff.1 hk).1
          have ltl := (Array.getElem?_eq_some_iff.1 hla).1
          obtain ⟨V', hV'⟩ : ∃ V', V.setCell ⟨K0 + 1, 0, none⟩ (.int .i32 xh) = V' := ⟨_, rfl⟩
          have hbV' : Below K0 wr V' := by rw [← hV']; exact h3.setCell (by simp) _
          have v0 : V'.cell? ⟨Bx, 0, none⟩ = some (.int .i32 xl) := by rw [← hV', cell_set_far (by omega)]; exact y0
          have v1 : V'.cell? ⟨Bx, 1, none⟩ = some (.int .i32 xh) := by rw [← hV', cell_set_far (by omega)]; exact y1
          have v2 : V'.cell? ⟨ba + 1, 0, none⟩ = some (.pointer (some ⟨ba, 0, none⟩)) := by rw [← hV', cell_set_far (by omega)]; exact cbV
          have vk : V'.heap[K0]? = some (.cells #[.int .i64 (sizeP pre)] 3 (0, 0)) := by rw [← hV']; exact (Below.heap_setCell _ _ _ _ (by simp)).trans hk
          have vl' : V'.heap[K0 + 1]? = some (.cells #[.int .i32 xh] 21 (0, 0)) := by
            rw [← hV', setCell_eq_setRow V (K0 + 1) 0 _ _ _ _ hla]
            exact setRow_heap V (K0 + 1) _ _ _ _ hla
          have hs' : V'.heap.size = V.heap.size := by rw [← hV']; simp [World.setCell]
          have hkeep' : ∀ k, k ≠ K0 + 1 → V'.heap[k]? = V.heap[k]? := fun k hk => by rw [← hV']; exact Below.heap_setCell _ _ _ _ hk
          have ko' : KeepsOthers V V' := by rw [← hV']; exact KeepsOthers.setCell _ _ _
          have hA := callsIn_wide (n := 10 - 1 - 1 - 1) |>.2 (at_any ba va W2.heap.size pa hok xh V' (hma.below (by rw [hK0]; exact hbV')) (hra.below (by rw [hK0]; exact hbV')))
          rw [hAt] at hA
          have HA : Hid (CallsIn Fence.wide (10 - 1 - 1 - 1) Try.prog 24 #[.pointer (some ⟨ba, 0, none⟩), .int .i32 xh] V' fun e w' => e = .returned (.tuple #[.float .f64 u, .bool true]) ∧ Below V'.heap.size V' w') := hA
          have HV' := hide hV'
          clear hA hAt
          have hpair := not_pair hu
          clear hu
          rcases hpair with e1 | ⟨rfl, e1, e2⟩
          all_goals
            gi_wp2_with (first
              | (gi_at_call 24; refine (unhide HA).mono ?_; rintro e V2 ⟨rfl, hbv⟩; have j0 := (hbv.cell (World.block_lt_of_cell? _ _ v0)).trans v0; have j1 := (hbv.cell (World.block_lt_of_cell? _ _ v1)).trans v1; have jk := (hbv.block _ (by omega)).trans vk; have jl := (hbv.block _ (by omega)).trans vl'; have j2 : V2.cell? ⟨K0, 0, none⟩ = some (.int .i64 (sizeP pre)) := (by simp [World.cell?, jk]); have f3 : V2.frozen? ⟨K0, 0, none⟩ = false := (by simp [World.frozen?, jk])))
            have kv : KeepsOthers V' V2 := ⟨hbv.size, fun k o hk _ => (hbv.block k (Array.getElem?_eq_some_iff.1 hk).1).trans hk⟩
            have ko := (ko'.trans kv).trans (KeepsOthers.setCell V2 ⟨K0, 0, none⟩ (.int .i64 (sizeP pre + (xh - xl) + 1)))
            have hkp : ∀ k, k < V.heap.size → k ≠ K0 → k ≠ K0 + 1 → (V2.setCell ⟨K0, 0, none⟩ (.int .i64 (sizeP pre + (xh - xl) + 1))).heap[k]? = V.heap[k]? := fun k h1 h2 h5 => ((Below.heap_setCell _ _ _ _ h2).trans (hbv.block k (by omega))).trans (hkeep' k h5)
            have hs2' := hbv.size
            refine ⟨ko.from _, ⟨ko.walks, fun k ob hk5 hc hx => ?_⟩, ?_, ?_, ?_, by simp [World.setCell]; omega⟩
            · have hkV := (Array.getElem?_eq_some_iff.1 hx).1
              rcases hk5 with hk5 | hk5
              · exact (hkp k hkV (by omega) (by omega)).trans hx
              · exact hk5.elim
            · rw [sizeP_append, setCell_eq_setRow V2 K0 0 _ _ _ _ jk]
              have e := setRow_heap V2 K0 _ (#[.int .i64 (sizeP pre + (xh - xl) + 1)] : Array Value) _ _ jk
              have e5 : ∀ v : Nat, sizeP pre + sizeP [(⟨xl, xh, v⟩ : Pc Nat)] = sizeP pre + (xh - xl) + 1 := fun v => by simp only [sizeP]; omega
              rw [e5]
              exact e
            · rw [endP_snoc]
              refine (Below.heap_setCell _ _ _ _ (by simp)).trans (jl.trans ?_)
              simp
            · exact (hbV'.trans (hbv.mono (by omega))).setCell (by simp) _
        case done =>
          rintro D xs V hD hS ⟨hk, hla, h3, h4⟩ hK
          have hsS : sizeP xs = sizeP pa := by rw [hS]; exact strs_size eqv pa
          rw [hsS] at hk
          have HSm := hide (fun V' (hV' : Below wr.heap.size wr V') => size_map ba va W2.heap.size pa hok V' (hma.below hV') (hra.below hV'))
          have cbV : V.cell? ⟨ba + 1, 0, none⟩ = some (.pointer (some ⟨ba, 0, none⟩)) := (h3.cell (by show ba + 1 < wr.heap.size; omega)).trans cbr
          have ltk := (Array.getElem?_eq_some_iff.1 hk).1
          have hDV := (Array.getElem?_eq_some_iff.1 hK).1
          obtain ⟨z1, z2, z3⟩ := unhide HSZ
          have hrsV : V.heap[w.heap.size]? = some (.cells #[.bool false] 4 (0, 0)) := (h3.block _ (by omega)).trans (unhide HRS3)
          have hb0 := (unhide HBW).trans (h3.mono (unhide HBW).size)
          simp only [Exit.inBlock]
          gi_wp2_with (gi_at_call 26; refine CallsIn.mono (callsIn_wide.2 (unhide HSm V h3)) ?_; rintro e V8 ⟨rfl, hb8⟩; have jk := (hb8.block _ ltk).trans hk; have j2 : V8.cell? ⟨wr.heap.size, 0, none⟩ = some (.int .i64 (sizeP pa)) := (by simp [World.cell?, jk]); have r9 := (hb8.block _ (by omega)).trans hrsV; have q9 : V8.cell? ⟨w.heap.size, 0, none⟩ = some (.bool false) := (by simp [World.cell?, r9]); have f9 : V8.frozen? ⟨w.heap.size, 0, none⟩ = false := (by simp [World.frozen?, r9]))
          have kD : (V8.setCell ⟨w.heap.size, 0, none⟩ (.bool true)).heap[D]? = some (.deferred (some [])) := by
            refine (Below.heap_setCell _ _ _ _ ?_).trans ((hb8.block _ hDV).trans hK)
            show D ≠ w.heap.size
            omega
          have k9 : (V8.setCell ⟨w.heap.size, 0, none⟩ (.bool true)).heap[w.heap.size]? = some (.cells #[.bool true] 4 (0, 0)) := by
            rw [setCell_eq_setRow V8 w.heap.size 0 _ _ _ _ r9]
            exact setRow_heap V8 w.heap.size _ _ _ _ r9
          refine ⟨by simp, .inl ⟨_, _, rfl, run_takeDeferred kD, ?_⟩⟩
          have k10 : ((V8.setCell ⟨w.heap.size, 0, none⟩ (.bool true)).putObj D (.deferred none)).heap[w.heap.size]? = some (.cells #[.bool true] 4 (0, 0)) := (World.putObj_heap_other (by omega)).trans k9
          refine ⟨.bool true, ?_, rfl, below_put ((hb0.trans (hb8.mono (by omega))).setCell (by simp) _) (by omega) _⟩
          simp [results, Try.results5, go_sem, World.cell?, k10]
        case stop =>
          rintro D c pre V hD hSp hx hK
          exact hx.elim
end Go.Proofs.Ytebppdcnfbflkaa
