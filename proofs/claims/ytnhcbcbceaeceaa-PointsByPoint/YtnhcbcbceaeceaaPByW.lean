/-
  PointsByPoint: the law's walk.
-/
import Derived.Test.YtnhcbcbceaeceaaPoBc
import Derived.Test.YtnhcbcbceaeceaaPoQg
import Derived.Test.YtnhcbcbceaeceaaPoQh
import Derived.BigQuiet
namespace Go.Proofs.Ytnhcbcbceaeceaa
open Go.RowKit Go.PlainAid Go.Lib Go.PRow Go.Shelf
set_option linter.unusedVariables false
set_option linter.unusedSimpArgs false

theorem below_allocP (w : World) (o : Obj) : Below w.heap.size w (w.alloc o) := (Below.refl _ w).alloc (Nat.le_refl _) _
theorem cell_four_new (w : World) (x0 x1 x2 x3 : Value) (t : TypeId) : ∀ (j : Nat) (u : Value), [x0, x1, x2, x3][j]? = some u → (w.alloc (.cells #[x0, x1, x2, x3] t)).cell? ((⟨w.heap.size, 0, none⟩ : Addr).add j) = some u := by
  intro j u h
  rw [Go.WideShapes.add_plain, World.cell?_alloc_at _ _ _ _ rfl]
  simpa using h

set_option maxRecDepth 100000 in
set_option maxHeartbeats 8000000 in
theorem by_walk (m : Int) (a1 a2 : Option Addr) (c1 c2 : Nat) (S : List (Int × Int × Int)) (K : List Int) (w : World) (hm : w.cell? ⟨0, 0, none⟩ = some (.int .i64 m))
    (hS : ReadsS4 w a1 S) (hK : ReadsR4 w a2 K) :
    Calls Try.prog 3 #[.slice a1 S.length c1, .slice a2 K.length c2] w fun e w' => e = .returned (.bool true) ∧ Below w.heap.size w w' := by
  have hmB : 0 < w.heap.size := World.block_lt_of_cell? _ _ hm
  have HLV := hide (fun V (hV : Below w.heap.size w V) => lives_any m V ((hV.cell hmB).trans hm))
  have HS := hide (fun V (hV : Below w.heap.size w V) => hS.below hV)
  have HK := hide (fun V (hV : Below w.heap.size w V) => hK.below hV)
  have HR := hide (Below.refl w.heap.size w)
  obtain ⟨n, hn⟩ : ∃ n, S.length = n := ⟨_, rfl⟩
  obtain ⟨k, hk⟩ : ∃ k, K.length = k := ⟨_, rfl⟩
  rw [hn, hk]
  have HN := hide hn
  have HK1 := hide hk
  clear hn hk hS hK hm hmB
  by_cases h1 : 100 < n
  · have h1' : (100 : Int) < (n : Int) := by omega
    have d1 : decide ((100 : Int) < (n : Int)) = true := decide_eq_true h1'
    go_enter Try.func3, Try.ntmps3
    go_wp2_with (go_at_call 4; refine (unhide HLV w (unhide HR)).mono ?_; rintro e w2 ⟨rfl, hb⟩)
    go_ret
    exact ⟨rfl, hb⟩
  have h1' : ¬ (100 : Int) < (n : Int) := by omega
  have d1 : decide ((100 : Int) < (n : Int)) = false := decide_eq_false h1'
  by_cases h2 : 100 < k
  · have h2' : (100 : Int) < (k : Int) := by omega
    have d2 : decide ((100 : Int) < (k : Int)) = true := decide_eq_true h2'
    go_enter Try.func3, Try.ntmps3
    go_wp2_with (go_at_call 4; refine (unhide HLV w (unhide HR)).mono ?_; rintro e w2 ⟨rfl, hb⟩)
    go_ret
    exact ⟨rfl, hb⟩
  have h2' : ¬ (100 : Int) < (k : Int) := by omega
  have d2 : decide ((100 : Int) < (k : Int)) = false := decide_eq_false h2'
  go_enter Try.func3, Try.ntmps3
  go_wp2_with fail
  refine (unhide HLV w (unhide HR)).mono ?_
  rintro e w1 ⟨rfl, hb1⟩
  go_wp2_with fail
  refine (VI.new_any _).mono ?_
  rintro e w' ⟨rfl, rfl⟩
  obtain ⟨W1, hW1⟩ : ∃ W1, w1.alloc (.cells #[.bool true, .slice none 0 0] 57) = W1 := ⟨_, rfl⟩
  have m1 : VI.IsMap W1 w1.heap.size (.slice none 0 0) := by rw [← hW1]; exact heap_alloc_new w1 _
  have hB1 : Below w.heap.size w W1 := by rw [← hW1]; exact hb1.alloc hb1.size _
  have hbm : w.heap.size ≤ w1.heap.size := hb1.size
  rw [hW1]
  clear hW1 hb1 d1 d2 h1' h2' HR HLV
  generalize w1.heap.size = b at *
  have hK1 := unhide HK W1 hB1
  go_wp2_with (at_builtin; refine wpList_look rfl _ _ rfl w.heap.size hB1.size a2 c2 K k (unhide HK1) rfl rfl hK1 (by omega) ?_; intro v6 w6 hown6 hgr6)
  have HB6 : Below w.heap.size w w6 := hB1.grown hgr6 hB1.size (fun k e => by cases e)
  have m6 : w6.heap[b]? = some (.cells #[.bool true, .slice none 0 0] 57 (0, 0)) := (hgr6.block b m1.lt (by simp)).trans m1
  have hk0 := unhide HK1
  obtain ⟨i0, hi0, hz0, hz1, hz2⟩ := info_parts infoR
  clear hgr6 m1 hB1 hK1 HK
  go_loopw [6, 7] (fun v6 v7 wr => ∃ (i : Nat) (ls : List Int), v7 = .int .i64 i ∧ i ≤ n ∧ ls.length = k + 4 * i ∧ wr.ownsRow w.heap.size 21 1 v6 ls.length (intsR ls) ∧ wr.heap[b]? = some (.cells #[.bool true, .slice none 0 0] 57 (0, 0)) ∧ Below w.heap.size w wr) (fun _ v7 _ => n - (RowKit.intOf v7).toNat)
  case atStart => exact ⟨0, K, rfl, by omega, hk0, by rw [hk0]; exact hown6, m6, HB6⟩
  case round =>
    clear hown6 m6 HB6
    obtain ⟨i, ls, rfl, hi, hll, hrow, hma, hb⟩ := hrel
    by_cases hlt : i < n
    · have hlt' : (i : Int) < (n : Int) := by omega
      obtain ⟨⟨d, lo, hi'⟩, hp⟩ : ∃ p, S[i]? = some p := ⟨_, List.getElem?_eq_getElem (by have := unhide HN; omega)⟩
      obtain ⟨g, off, rfl, s0, s5, s6⟩ := unhide HS wr hb i d lo hi' hp
      have hbs := hb.size
      have hb2 := (hb.alloc hbs (.cells #[.int .i32 lo, .int .i32 hi'] 28)).alloc (by simp; omega) (.cells #[.int .i32 (wrap32 (lo - 1)), .int .i32 lo, .int .i32 hi', .int .i32 (wrap32 (hi' + 1))] 21)
      have hrow2 := (hrow.alloc (.cells #[.int .i32 lo, .int .i32 hi'] 28)).alloc (.cells #[.int .i32 (wrap32 (lo - 1)), .int .i32 lo, .int .i32 hi', .int .i32 (wrap32 (hi' + 1))] 21)
      have hc4 := cell_four_new (wr.alloc (.cells #[.int .i32 lo, .int .i32 hi'] 28)) (.int .i32 (wrap32 (lo - 1))) (.int .i32 lo) (.int .i32 hi') (.int .i32 (wrap32 (hi' + 1))) 21
      have hma2 : ((wr.alloc (.cells #[.int .i32 lo, .int .i32 hi'] 28)).alloc (.cells #[.int .i32 (wrap32 (lo - 1)), .int .i32 lo, .int .i32 hi', .int .i32 (wrap32 (hi' + 1))] 21)).heap[b]? = some (.cells #[.bool true, .slice none 0 0] 57 (0, 0)) := by
        have hl := (Array.getElem?_eq_some_iff.1 hma).1
        rw [Below.heap_alloc _ _ _ (by simp; omega), Below.heap_alloc _ _ _ hl]
        exact hma
      have HX := hide (⟨hb2, hrow2, hma2⟩ : _ ∧ _ ∧ _)
      have HC := hide hc4
      have hnb : u6.ownBlock ≠ some b := fun e => by
        obtain ⟨_, h⟩ := hrow.blockOf e
        rw [h] at hma
        have := Option.some.inj hma
        injection this with _ e'
        revert e'
        decide
      have HNB := hide hnb
      clear hb2 hrow2 hma2 hma hb hc4 hnb
      go_wp2_with (at_builtin; refine wpList_append_own _ rfl _ _ 23 rfl w.heap.size 21 i0 (.int .i32 0) 1 4 Try.underlying23 hi0 hz0 hz1 hz2 rfl (by decide) _ _ _ rfl (unhide HX).2.1 ⟨wr.heap.size + 1, 0, none⟩ 4 4 [.int .i32 (wrap32 (lo - 1)), .int .i32 lo, .int .i32 hi', .int .i32 (wrap32 (hi' + 1))] rfl rfl (by simpa using unhide HC) (by simp [Value.oneCell']) (by unfold maxLen; omega) (by omega) (by simp; omega) ?_; intro v' w4 hown' hgrow _)
      obtain ⟨hb2, hrow2, hma2⟩ := unhide HX
      have hgrow' : World.grownBy _ w4 u6.ownBlock := hgrow
      have hb4 := hb2.grown hgrow' hb2.size (fun k e => (hrow.lt k e).1)
      have hma4 := (hgrow'.block b (Array.getElem?_eq_some_iff.1 hma2).1 (fun e => unhide HNB e.symm)).trans hma2
      have hown4 : w4.ownsRow w.heap.size 21 1 v' (ls ++ [wrap32 (lo - 1), lo, hi', wrap32 (hi' + 1)]).length (intsR (ls ++ [wrap32 (lo - 1), lo, hi', wrap32 (hi' + 1)])) := by
        rw [show intsR (ls ++ [wrap32 (lo - 1), lo, hi', wrap32 (hi' + 1)]) = intsR ls ++ [.int .i32 (wrap32 (lo - 1)), .int .i32 lo, .int .i32 hi', .int .i32 (wrap32 (hi' + 1))] by simp [intsR], List.length_append]
        exact hown'
      clear hgrow hgrow' HX HC HNB hb2 hrow2 hma2 hown' hrow
      go_roundw
      case rel => exact ⟨i + 1, _, by go_num, by omega, by rw [List.length_append, hll]; simp; omega, hown4, hma4, hb4⟩
      case measure => simp [RowKit.intOf]; omega
    · obtain rfl : n = i := by omega
      have hlt' : ¬ (n : Int) < (n : Int) := by omega
      obtain ⟨al, cl, rfl, hla⟩ := look_of hrow
      obtain ⟨N, hN⟩ : ∃ N, ls.length = N := ⟨_, rfl⟩
      rw [hN] at hrow hll ⊢
      obtain ⟨i1, hi1, hy0, hy1, hy2⟩ := info_parts infoI4
      obtain ⟨i2, hi2, hx0, hx1, hx2⟩ := info_parts infoB4
      obtain ⟨V1, mk1, own1, gr1⟩ := run_make_full (P := Try.prog) wr w.heap.size 31 3 i1 (.int .i64 0) 1 Try.underlying31 hi1 hy0 hy1 .i64 .i64 N (by rw [hy2]; omega) (by unfold maxLen; omega) hb.size
      have hb1 := hb.grown gr1 hb.size (fun k e => by cases e)
      obtain ⟨V2, mk2, own2, gr2⟩ := run_make_full (P := Try.prog) V1 w.heap.size 32 4 i2 (.bool false) 1 Try.underlying32 hi2 hx0 hx1 .i64 .i64 N (by rw [hx2]; omega) (by unfold maxLen; omega) hb1.size
      have hst := st_made hN hma hla hb hbm own1 gr1 own2 gr2
      have HST := hide hst
      have HNN := hide hN
      have hN5 : N ≤ 500 := by omega
      clear hla own1 gr1 own2 gr2 hst hrow hN hma hb hb1 hll
      generalize wr.heap.size = gv at *
      generalize V1.heap.size = gh at *
      go_wp2
      go_loopw [11] (fun v11 U => ∃ (i : Nat) (ps : List (Pc Int)), v11 = .int .i64 i ∧ i ≤ n ∧ Hid (StP w b gv gh al ls (R3 ls ps ps 0) ps U)) (fun v11 _ => n - (RowKit.intOf v11).toNat)
      case atStart => exact ⟨0, [], rfl, by omega, HST⟩
      case round =>
        clear HST mk1 mk2 hi hlt hlt'
        obtain ⟨i, ps, rfl, hi, HP⟩ := hrel
        by_cases hlt : i < n
        · have hlt' : (i : Int) < (n : Int) := by omega
          obtain ⟨⟨d, lo, hi'⟩, hp⟩ : ∃ p, S[i]? = some p := ⟨_, List.getElem?_eq_getElem (by have := unhide HN; omega)⟩
          have HSI := hide (fun V (hV : Below w.heap.size w V) => unhide HS V hV i d lo hi' hp)
          obtain ⟨g, off, rfl, s0, s5, s6⟩ := unhide HSI wr (unhide HP).2.2.2.2.1
          have z0 : ∀ o, (wr.alloc o).cell? ⟨g, off + i * 8, none⟩ = some (.int .i64 d) := fun o => ((below_allocP wr o).cell (p := ⟨g, off + i * 8, none⟩) (World.block_lt_of_cell? _ _ s0)).trans s0
          have HP0 := hide ((unhide HP).below (below_allocP wr (.cells #[.int .i32 lo, .int .i32 hi'] 28)))
          have HBX := hide (heap_alloc_new wr (.cells #[.int .i32 lo, .int .i32 hi'] 28))
          by_cases hd0 : d = 0
          · subst hd0
            obtain ⟨hok, ⟨u, hma, hra⟩, -, -, hbw, hbb, -, -⟩ := unhide HP0
            have HCL := hide (step_put b u w.heap.size ps hok lo hi' i _ hma hbw.size hbb hra)
            clear hok hma hra hbw
            go_wp2_with fail
            refine (unhide HCL).mono ?_
            rintro e V3 ⟨z, rfl, hse⟩
            obtain ⟨ps', hst, hP3, hbx⟩ := (unhide HP0).step hse
            have HP3 := hide (hP3.weak (R' := R3 ls ps ps' 0) fun j z b _ h => R3.begin j z b h)
            have HB3 := hide (hbx _ _ (unhide HBX))
            have HSTEP := hide hst
            clear HP HP0 HBX HCL s0 s5 s6 z0 hse hst hP3 hbx hbb
            generalize wr.heap.size = br at HB3 ⊢
            go_wp2
            go_loopw [14] (fun v14 U => ∃ j : Nat, v14 = .int .i64 j ∧ j ≤ N ∧ Hid (StP w b gv gh al ls (R3 ls ps ps' j) ps' U) ∧ Hid (U.heap[br]? = some (.cells #[.int .i32 lo, .int .i32 hi'] 28 (0, 0)))) (fun v14 _ => N - (RowKit.intOf v14).toNat)
            case atStart => exact ⟨0, rfl, by omega, HP3, HB3⟩
            case round =>
              clear HP3 HB3
              obtain ⟨j, rfl, hj, HP3, HB3⟩ := hrel
              by_cases hjl : j < N
              · have hjl' : (j : Int) < (N : Int) := by omega
                have hjs : j < ls.length := by have := unhide HNN; omega
                obtain ⟨x, hx⟩ : ∃ x, ls[j]? = some x := ⟨_, List.getElem?_eq_getElem hjs⟩
                obtain ⟨gl, cur, rfl, l1, l2⟩ := (unhide HP3).2.2.1 j x hx
                have ql : wr.cell? ⟨gl, j, none⟩ = some (.int .i32 x) := by simp [World.cell?, l1, l2]
                obtain ⟨q0, q1⟩ : wr.cell? ⟨br, 0, none⟩ = some (.int .i32 lo) ∧ wr.cell? ⟨br, 1, none⟩ = some (.int .i32 hi') := by
                  have := unhide HB3
                  exact ⟨by simp [World.cell?, this], by simp [World.cell?, this]⟩
                have HX := hide hx
                have HQ := hide (fun q => (⟨(unhide HP3).below (below_drewN (Below.refl _ wr) q), unhide HB3⟩ : StP w b gv gh (some ⟨gl, 0, none⟩) ls (R3 ls ps ps' j) ps' (wr.drewN q) ∧ (wr.drewN q).heap[br]? = some (.cells #[.int .i32 lo, .int .i32 hi'] 28 (0, 0))))
                clear l1 l2 cur hx HP3 HB3
                by_cases hz : z = 0
                · subst hz
                  have dz : ((0 : Int) == 0) = true := rfl
                  by_cases hlx : lo ≤ x
                  · have dl : decide (lo ≤ x) = true := decide_eq_true hlx
                    by_cases hxh : x ≤ hi'
                    · have dh : decide (x ≤ hi') = true := decide_eq_true hxh
                      go_wp2_with fail
                      go_quiet (fail)
                      obtain ⟨WQ, hWQ⟩ : ∃ WQ, wr.drewN nq = WQ := ⟨_, rfl⟩
                      have hPB := unhide HQ nq
                      rw [hWQ] at hPB ⊢
                      obtain ⟨y, bb, hR, v1, v2, f1, f2⟩ := hPB.1.2.2.2.1.at hjs
                      obtain ⟨⟨b2, v3⟩, f3⟩ := hPB.1.2.2.2.1.at2 hjs (.int .i64 i)
                      obtain ⟨-, -, -, -, hbw, -, hgv, -⟩ := hPB.1
                      obtain ⟨g', off', hgg, s0, -, -⟩ := unhide HSI _ (hbw.setCell (p := ⟨gv, j, none⟩) hgv (.int .i64 i))
                      cases hgg
                      have HF := hide (hPB.1.put (R' := R3 ls ps ps' (j + 1)) hjs i true (R3.here (unhide HSTEP) (unhide HX) ⟨rfl, hlx, hxh⟩ hR) (fun k z b _ hk h => R3.other k z b hk h))
                      have HPB := hide hPB.2
                      clear hWQ hPB hR hbw hgv ql q0 q1
                      go_wp2
                      go_roundw
                      case rel => exact ⟨j + 1, by go_num, by omega, (unhide HF).1, (unhide HF).2 _ _ (unhide HPB)⟩
                      case measure => simp [RowKit.intOf]; omega
                    · have dh : decide (x ≤ hi') = false := decide_eq_false hxh
                      go_wp2_with fail
                      go_quiet (fail)
                      have HPB := hide (unhide HQ nq)
                      go_wp2
                      go_roundw
                      case rel => exact ⟨j + 1, by go_num, by omega, (unhide HPB).1.weak (fun k z b _ h => R3.skip (unhide HSTEP) (unhide HX) (fun h => by omega) k z b h), (unhide HPB).2⟩
                      case measure => simp [RowKit.intOf]; omega
                  · have dl : decide (lo ≤ x) = false := decide_eq_false hlx
                    go_wp2_with fail
                    go_quiet (fail)
                    have HPB := hide (unhide HQ nq)
                    go_wp2
                    go_roundw
                    case rel => exact ⟨j + 1, by go_num, by omega, (unhide HPB).1.weak (fun k z b _ h => R3.skip (unhide HSTEP) (unhide HX) (fun h => by omega) k z b h), (unhide HPB).2⟩
                    case measure => simp [RowKit.intOf]; omega
                · have dz : (z == 0) = false := by simp [hz]
                  go_wp2_with fail
                  go_quiet (fail)
                  have HPB := hide (unhide HQ nq)
                  go_wp2
                  go_roundw
                  case rel => exact ⟨j + 1, by go_num, by omega, (unhide HPB).1.weak (fun k z b _ h => R3.skip (unhide HSTEP) (unhide HX) (fun h => by omega) k z b h), (unhide HPB).2⟩
                  case measure => simp [RowKit.intOf]; omega
              · obtain rfl : N = j := by omega
                have hjl' : ¬ (N : Int) < (N : Int) := by omega
                have HPD := hide ((unhide HP3).weak (R' := R3 ls ps' ps' 0) (fun k z b hk h => R3.done k z b (by have := unhide HNN; omega) h))
                clear HP3 HB3
                go_wp2
                go_roundw
                case rel => exact ⟨i + 1, ps', by go_num, by omega, HPD⟩
                case measure => simp [RowKit.intOf]; omega
          have b0 : (d == 0) = false := by simp [hd0]
          by_cases hd1 : d = 1
          · subst hd1
            obtain ⟨hok, ⟨u, hma, hra⟩, -, -, hbw, hbb, -, -⟩ := unhide HP0
            have HCL := hide (step_lay b u w.heap.size ps hok lo hi' i _ hma hbw.size hbb hra)
            clear hok hma hra hbw
            go_wp2_with fail
            refine (unhide HCL).mono ?_
            rintro e V3 ⟨z, rfl, hse⟩
            obtain ⟨ps', hst, hP3, hbx⟩ := (unhide HP0).step hse
            have HP3 := hide (hP3.weak (R' := R3 ls ps ps' 0) fun j z b _ h => R3.begin j z b h)
            have HB3 := hide (hbx _ _ (unhide HBX))
            have HSTEP := hide hst
            clear HP HP0 HBX HCL s0 s5 s6 z0 hse hst hP3 hbx hbb
            generalize wr.heap.size = br at HB3 ⊢
            go_wp2
            go_loopw [14] (fun v14 U => ∃ j : Nat, v14 = .int .i64 j ∧ j ≤ N ∧ Hid (StP w b gv gh al ls (R3 ls ps ps' j) ps' U) ∧ Hid (U.heap[br]? = some (.cells #[.int .i32 lo, .int .i32 hi'] 28 (0, 0)))) (fun v14 _ => N - (RowKit.intOf v14).toNat)
            case atStart => exact ⟨0, rfl, by omega, HP3, HB3⟩
            case round =>
              clear HP3 HB3
              obtain ⟨j, rfl, hj, HP3, HB3⟩ := hrel
              by_cases hjl : j < N
              · have hjl' : (j : Int) < (N : Int) := by omega
                have hjs : j < ls.length := by have := unhide HNN; omega
                obtain ⟨x, hx⟩ : ∃ x, ls[j]? = some x := ⟨_, List.getElem?_eq_getElem hjs⟩
                obtain ⟨gl, cur, rfl, l1, l2⟩ := (unhide HP3).2.2.1 j x hx
                have ql : wr.cell? ⟨gl, j, none⟩ = some (.int .i32 x) := by simp [World.cell?, l1, l2]
                obtain ⟨q0, q1⟩ : wr.cell? ⟨br, 0, none⟩ = some (.int .i32 lo) ∧ wr.cell? ⟨br, 1, none⟩ = some (.int .i32 hi') := by
                  have := unhide HB3
                  exact ⟨by simp [World.cell?, this], by simp [World.cell?, this]⟩
                have HX := hide hx
                have HQ := hide (fun q => (⟨(unhide HP3).below (below_drewN (Below.refl _ wr) q), unhide HB3⟩ : StP w b gv gh (some ⟨gl, 0, none⟩) ls (R3 ls ps ps' j) ps' (wr.drewN q) ∧ (wr.drewN q).heap[br]? = some (.cells #[.int .i32 lo, .int .i32 hi'] 28 (0, 0))))
                clear l1 l2 cur hx HP3 HB3
                by_cases hz : z = 0
                · subst hz
                  have dz : ((0 : Int) == 0) = true := rfl
                  by_cases hlx : lo ≤ x
                  · have dl : decide (lo ≤ x) = true := decide_eq_true hlx
                    by_cases hxh : x ≤ hi'
                    · have dh : decide (x ≤ hi') = true := decide_eq_true hxh
                      go_wp2_with fail
                      go_quiet (fail)
                      obtain ⟨WQ, hWQ⟩ : ∃ WQ, wr.drewN nq = WQ := ⟨_, rfl⟩
                      have hPB := unhide HQ nq
                      rw [hWQ] at hPB ⊢
                      obtain ⟨y, bb, hR, v1, v2, f1, f2⟩ := hPB.1.2.2.2.1.at hjs
                      obtain ⟨⟨b2, v3⟩, f3⟩ := hPB.1.2.2.2.1.at2 hjs (.int .i64 i)
                      obtain ⟨-, -, -, -, hbw, -, hgv, -⟩ := hPB.1
                      obtain ⟨g', off', hgg, s0, -, -⟩ := unhide HSI _ (hbw.setCell (p := ⟨gv, j, none⟩) hgv (.int .i64 i))
                      cases hgg
                      have HF := hide (hPB.1.put (R' := R3 ls ps ps' (j + 1)) hjs i true (R3.here (unhide HSTEP) (unhide HX) ⟨rfl, hlx, hxh⟩ hR) (fun k z b _ hk h => R3.other k z b hk h))
                      have HPB := hide hPB.2
                      clear hWQ hPB hR hbw hgv ql q0 q1
                      go_wp2
                      go_roundw
                      case rel => exact ⟨j + 1, by go_num, by omega, (unhide HF).1, (unhide HF).2 _ _ (unhide HPB)⟩
                      case measure => simp [RowKit.intOf]; omega
                    · have dh : decide (x ≤ hi') = false := decide_eq_false hxh
                      go_wp2_with fail
                      go_quiet (fail)
                      have HPB := hide (unhide HQ nq)
                      go_wp2
                      go_roundw
                      case rel => exact ⟨j + 1, by go_num, by omega, (unhide HPB).1.weak (fun k z b _ h => R3.skip (unhide HSTEP) (unhide HX) (fun h => by omega) k z b h), (unhide HPB).2⟩
                      case measure => simp [RowKit.intOf]; omega
                  · have dl : decide (lo ≤ x) = false := decide_eq_false hlx
                    go_wp2_with fail
                    go_quiet (fail)
                    have HPB := hide (unhide HQ nq)
                    go_wp2
                    go_roundw
                    case rel => exact ⟨j + 1, by go_num, by omega, (unhide HPB).1.weak (fun k z b _ h => R3.skip (unhide HSTEP) (unhide HX) (fun h => by omega) k z b h), (unhide HPB).2⟩
                    case measure => simp [RowKit.intOf]; omega
                · have dz : (z == 0) = false := by simp [hz]
                  go_wp2_with fail
                  go_quiet (fail)
                  have HPB := hide (unhide HQ nq)
                  go_wp2
                  go_roundw
                  case rel => exact ⟨j + 1, by go_num, by omega, (unhide HPB).1.weak (fun k z b _ h => R3.skip (unhide HSTEP) (unhide HX) (fun h => by omega) k z b h), (unhide HPB).2⟩
                  case measure => simp [RowKit.intOf]; omega
              · obtain rfl : N = j := by omega
                have hjl' : ¬ (N : Int) < (N : Int) := by omega
                have HPD := hide ((unhide HP3).weak (R' := R3 ls ps' ps' 0) (fun k z b hk h => R3.done k z b (by have := unhide HNN; omega) h))
                clear HP3 HB3
                go_wp2
                go_roundw
                case rel => exact ⟨i + 1, ps', by go_num, by omega, HPD⟩
                case measure => simp [RowKit.intOf]; omega
          have b1 : (d == 1) = false := by simp [hd1]
          by_cases hd2 : d = 2
          · subst hd2
            obtain ⟨hok, ⟨u, hma, hra⟩, -, -, hbw, hbb, -, -⟩ := unhide HP0
            have HCL := hide (step_cut b u w.heap.size ps hok lo hi' i _ hma hbw.size hbb hra)
            clear hok hma hra hbw
            go_wp2_with fail
            refine (unhide HCL).mono ?_
            rintro e V3 ⟨_, z, rfl, hse⟩
            obtain ⟨ps', hst, hP3, hbx⟩ := (unhide HP0).step hse
            have HP3 := hide (hP3.weak (R' := R3 ls ps ps' 0) fun j z b _ h => R3.begin j z b h)
            have HB3 := hide (hbx _ _ (unhide HBX))
            have HSTEP := hide hst
            clear HP HP0 HBX HCL s0 s5 s6 z0 hse hst hP3 hbx hbb
            generalize wr.heap.size = br at HB3 ⊢
            go_wp2
            go_loopw [14] (fun v14 U => ∃ j : Nat, v14 = .int .i64 j ∧ j ≤ N ∧ Hid (StP w b gv gh al ls (R3 ls ps ps' j) ps' U) ∧ Hid (U.heap[br]? = some (.cells #[.int .i32 lo, .int .i32 hi'] 28 (0, 0)))) (fun v14 _ => N - (RowKit.intOf v14).toNat)
            case atStart => exact ⟨0, rfl, by omega, HP3, HB3⟩
            case round =>
              clear HP3 HB3
              obtain ⟨j, rfl, hj, HP3, HB3⟩ := hrel
              by_cases hjl : j < N
              · have hjl' : (j : Int) < (N : Int) := by omega
                have hjs : j < ls.length := by have := unhide HNN; omega
                obtain ⟨x, hx⟩ : ∃ x, ls[j]? = some x := ⟨_, List.getElem?_eq_getElem hjs⟩
                obtain ⟨gl, cur, rfl, l1, l2⟩ := (unhide HP3).2.2.1 j x hx
                have ql : wr.cell? ⟨gl, j, none⟩ = some (.int .i32 x) := by simp [World.cell?, l1, l2]
                obtain ⟨q0, q1⟩ : wr.cell? ⟨br, 0, none⟩ = some (.int .i32 lo) ∧ wr.cell? ⟨br, 1, none⟩ = some (.int .i32 hi') := by
                  have := unhide HB3
                  exact ⟨by simp [World.cell?, this], by simp [World.cell?, this]⟩
                have HX := hide hx
                have HQ := hide (fun q => (⟨(unhide HP3).below (below_drewN (Below.refl _ wr) q), unhide HB3⟩ : StP w b gv gh (some ⟨gl, 0, none⟩) ls (R3 ls ps ps' j) ps' (wr.drewN q) ∧ (wr.drewN q).heap[br]? = some (.cells #[.int .i32 lo, .int .i32 hi'] 28 (0, 0))))
                clear l1 l2 cur hx HP3 HB3
                by_cases hz : z = 0
                · subst hz
                  have dz : ((0 : Int) == 0) = true := rfl
                  by_cases hlx : lo ≤ x
                  · have dl : decide (lo ≤ x) = true := decide_eq_true hlx
                    by_cases hxh : x ≤ hi'
                    · have dh : decide (x ≤ hi') = true := decide_eq_true hxh
                      go_wp2_with fail
                      go_quiet (fail)
                      obtain ⟨WQ, hWQ⟩ : ∃ WQ, wr.drewN nq = WQ := ⟨_, rfl⟩
                      have hPB := unhide HQ nq
                      rw [hWQ] at hPB ⊢
                      obtain ⟨y, bb, hR, v1, v2, f1, f2⟩ := hPB.1.2.2.2.1.at hjs
                      obtain ⟨⟨b2, v3⟩, f3⟩ := hPB.1.2.2.2.1.at2 hjs (.int .i64 i)
                      obtain ⟨-, -, -, -, hbw, -, hgv, -⟩ := hPB.1
                      obtain ⟨g', off', hgg, s0, -, -⟩ := unhide HSI _ (hbw.setCell (p := ⟨gv, j, none⟩) hgv (.int .i64 i))
                      cases hgg
                      have HF := hide (hPB.1.put (R' := R3 ls ps ps' (j + 1)) hjs i false (R3.here (unhide HSTEP) (unhide HX) ⟨rfl, hlx, hxh⟩ hR) (fun k z b _ hk h => R3.other k z b hk h))
                      have HPB := hide hPB.2
                      clear hWQ hPB hR hbw hgv ql q0 q1
                      go_wp2
                      go_roundw
                      case rel => exact ⟨j + 1, by go_num, by omega, (unhide HF).1, (unhide HF).2 _ _ (unhide HPB)⟩
                      case measure => simp [RowKit.intOf]; omega
                    · have dh : decide (x ≤ hi') = false := decide_eq_false hxh
                      go_wp2_with fail
                      go_quiet (fail)
                      have HPB := hide (unhide HQ nq)
                      go_wp2
                      go_roundw
                      case rel => exact ⟨j + 1, by go_num, by omega, (unhide HPB).1.weak (fun k z b _ h => R3.skip (unhide HSTEP) (unhide HX) (fun h => by omega) k z b h), (unhide HPB).2⟩
                      case measure => simp [RowKit.intOf]; omega
                  · have dl : decide (lo ≤ x) = false := decide_eq_false hlx
                    go_wp2_with fail
                    go_quiet (fail)
                    have HPB := hide (unhide HQ nq)
                    go_wp2
                    go_roundw
                    case rel => exact ⟨j + 1, by go_num, by omega, (unhide HPB).1.weak (fun k z b _ h => R3.skip (unhide HSTEP) (unhide HX) (fun h => by omega) k z b h), (unhide HPB).2⟩
                    case measure => simp [RowKit.intOf]; omega
                · have dz : (z == 0) = false := by simp [hz]
                  go_wp2_with fail
                  go_quiet (fail)
                  have HPB := hide (unhide HQ nq)
                  go_wp2
                  go_roundw
                  case rel => exact ⟨j + 1, by go_num, by omega, (unhide HPB).1.weak (fun k z b _ h => R3.skip (unhide HSTEP) (unhide HX) (fun h => by omega) k z b h), (unhide HPB).2⟩
                  case measure => simp [RowKit.intOf]; omega
              · obtain rfl : N = j := by omega
                have hjl' : ¬ (N : Int) < (N : Int) := by omega
                have HPD := hide ((unhide HP3).weak (R' := R3 ls ps' ps' 0) (fun k z b hk h => R3.done k z b (by have := unhide HNN; omega) h))
                clear HP3 HB3
                go_wp2
                go_roundw
                case rel => exact ⟨i + 1, ps', by go_num, by omega, HPD⟩
                case measure => simp [RowKit.intOf]; omega
          have b2 : (d == 2) = false := by simp [hd2]
          go_wp2
          go_roundw
          case rel => exact ⟨i + 1, ps, by go_num, by omega, HP0⟩
          case measure => simp [RowKit.intOf]; omega
        · obtain rfl : n = i := by omega
          have hlt' : ¬ (n : Int) < (n : Int) := by omega
          clear hi hlt
          go_wp2
          go_loopw [15] (fun v15 U => ∃ j : Nat, v15 = .int .i64 j ∧ j ≤ N ∧ Hid (StP w b gv gh al ls (R3 ls ps ps 0) ps U)) (fun v15 _ => N - (RowKit.intOf v15).toNat)
          case atStart => exact ⟨0, rfl, by omega, HP⟩
          case round =>
            clear HP hlt'
            obtain ⟨j, rfl, hj, HP⟩ := hrel
            by_cases hjl : j < N
            · have hjl' : (j : Int) < (N : Int) := by omega
              have hjs : j < ls.length := by have := unhide HNN; omega
              obtain ⟨x, hx⟩ : ∃ x, ls[j]? = some x := ⟨_, List.getElem?_eq_getElem hjs⟩
              obtain ⟨gl, cur, rfl, l1, l2⟩ := (unhide HP).2.2.1 j x hx
              have ql : wr.cell? ⟨gl, j, none⟩ = some (.int .i32 x) := by simp [World.cell?, l1, l2]
              obtain ⟨hok, ⟨u, hma, hra⟩, -, -, -, -, -, -⟩ := unhide HP
              have HAT := hide (VI.at_any b u w.heap.size ps hok x wr hma hra)
              have HX := hide hx
              clear l1 l2 cur hma hra hok hx
              go_wp2_with fail
              refine (unhide HAT).mono ?_
              rintro e w9 ⟨rfl, hb9⟩
              have HP9 := hide ((unhide HP).below hb9)
              obtain ⟨y, bb, hR, v1, v2, -, -⟩ := (unhide HP9).2.2.2.1.at hjs
              have hA := hR x (unhide HX)
              rw [if_neg (Nat.not_lt_zero _)] at hA
              obtain ⟨hA1, hA2⟩ := hA
              clear HAT HP hb9 hR ql
              cases hq : atP ps x with
              | some t =>
                obtain rfl := hA2 t hq
                rw [hq] at hA1
                obtain rfl : bb = true := hA1
                clear hA2 hq
                simp only [VI.atV]
                have e1 : (y != y) = false := by simp
                go_wp2
                go_roundw
                case rel => exact ⟨j + 1, by go_num, by omega, HP9⟩
                case measure => simp [RowKit.intOf]; omega
              | none =>
                rw [hq] at hA1
                obtain rfl : bb = false := hA1
                clear hA2 hq
                simp only [VI.atV]
                go_wp2
                go_roundw
                case rel => exact ⟨j + 1, by go_num, by omega, HP9⟩
                case measure => simp [RowKit.intOf]; omega
            · obtain rfl : N = j := by omega
              have hjl' : ¬ (N : Int) < (N : Int) := by omega
              obtain ⟨hok, ⟨u, hma, hra⟩, -, -, hbw, -, -, -⟩ := unhide HP
              have HCV := hide (covers_any b u ps hok wr hma (VI.RowP.mono hra (Nat.zero_le _)))
              have HBW := hide hbw
              clear hma hra hbw hok HP
              go_wp2_with fail
              refine (unhide HCV).mono ?_
              rintro e w9 ⟨rfl, hb9⟩
              go_wp2
              go_ret
              exact ⟨rfl, (unhide HBW).trans (hb9.mono (unhide HBW).size)⟩
end Go.Proofs.Ytnhcbcbceaeceaa
