/-
  The maker's trie.
-/
import Derived.Test.YtokillomaemocaaTrMi
import Derived.Test.YtokillomaemocaaTrAtU
import Derived.Test.YtokillomaemocaaTrQg
namespace Go.Proofs.Ytokillomaemocaa.VU
open Go.RowKit Go.PlainAid Go.Lib Go.PRow Go.Maps Go.TrM Go.SeqM
attribute [local go_sem] Oper.semAt_some
set_option linter.unusedVariables false
set_option linter.unusedSimpArgs false
set_option maxRecDepth 100000 in
set_option maxHeartbeats 4000000 in
theorem trie_any (Q : Ending → World → Prop) (w : World) (B mk : Nat) (o : Nat → Prop) (vs : List El) (h : MakV w B mk o vs) (hl : vs.length = 1114112)
    (hQ : Hid (∀ w' bt vt vm vl, TrAt w' B bt vt vm vl vs → Below w.heap.size w w' → w.heap.size ≤ bt → Q (.returned (.pointer (some ⟨bt, 0, none⟩))) w')) :
    Calls Try.prog 49 #[.pointer (some ⟨mk, 0, none⟩)] w Q := by
  obtain ⟨bn0, m0, v0, vl0, vb0, rfl, hM, hok⟩ := h
  obtain ⟨k0, k1, k2⟩ := cell3 hM.hk
  have hll : ((whole vs).2.map Int.ofNat).length = 17408 := by rw [List.length_map, whole_len, hl]
  obtain ⟨gl, capl, curl, hvl, hgl1, hgl2, hgl3, hgl4, hgl5⟩ := hM.hl.block (fun e => by rw [e] at hll; cases hll)
  rw [hll] at hvl hgl2
  subst hvl
  obtain ⟨M1, hM1, hmk1⟩ := VW.make_row 0 272 (by omega) (by omega)
  have hk1 : ∀ W : World, (Instr.makeSlice 24 (.int .i64 0) (.int .i64 272)).run Try.prog W = .ok (.slice (some ⟨W.heap.size, 0, none⟩) 0 272) (W.alloc (.cells M1 34)) := hmk1
  clear hmk1
  have HNN := hide (VW.newNum_any w w.heap.size (Nat.le_refl _))
  have hF : ∀ f, Fence.wide.fn f := fun _ => trivial
  refine (callsIn_wide (n := 16)).1 ?_
  refine callsIn_of_wp_marks Try.func49 rfl trivial ?_ rfl
  simp only [Try.ntmps49, List.size_toArray, List.length_cons, List.length_nil, Nat.reduceAdd, Nat.reduceSub, Array.replicate_succ, Array.replicate_zero, List.push_toArray, List.append_toArray, List.nil_append, List.cons_append]
  gi_wp2_with fail
  refine CallsIn.mono (callsIn_wide.2 (unhide HNN)) ?_
  rintro e w1 ⟨rfl, hN1, hs1, hB1⟩
  have f1 : w1.cell? ⟨mk, 1, none⟩ = some (.slice (some ⟨gl, 0, none⟩) 17408 capl) := (hB1.cell (p := ⟨mk, 1, none⟩) hM.lt).trans k1
  have HH := hide (And.intro hN1 (And.intro hs1 hB1))
  have HM := hide (And.intro hM (And.intro hok hl))
  have HG := hide (And.intro hgl1 (And.intro hgl2 (And.intro hgl3 (And.intro hgl4 hgl5))))
  have hmkl : mk < w1.heap.size := by have := hM.lt; omega
  have f3 : ∀ o1 o2 o3 : Obj, (((w1.alloc o1).alloc o2).alloc o3).cell? ⟨mk, 1, none⟩ = some (.slice (some ⟨gl, 0, none⟩) 17408 capl) := fun o1 o2 o3 => ((((Below.refl _ w1).alloc (Nat.le_refl _) o1).alloc (by simp) o2).alloc (by simp; omega) o3).cell (p := ⟨mk, 1, none⟩) hmkl ▸ f1
  clear hN1 hB1 hM hok hl k0 k1 k2 hgl1 hgl2 hgl3 hgl4 hgl5 hll f1
  gi_wp2_with fail
  refine CallsIn.mono (callsIn_wide.2 (chunk_any _ ⟨_, _, _, rfl⟩ _)) ?_
  rintro e w2 ⟨rfl, hw2⟩
  have HW2 := hide hw2
  clear hw2
  gi_wp2_with fail
  obtain ⟨W0, hW0⟩ : ∃ W0, w2 = W0 := ⟨_, rfl⟩
  rw [hW0] at HW2 ⊢
  clear hW0
  obtain ⟨hM, hok, hl⟩ := unhide HM
  obtain ⟨hgB, hgc, hgh, hgs, hgt⟩ := unhide HG
  have hcm : capl ≤ maxLen := by
    obtain ⟨_, _, e, _, hm, _⟩ := hM.hl.form
    injection e with _ _ e
    omega
  obtain ⟨hN1, hs1, hB1⟩ := unhide HH
  have hsz0 : W0.heap.size = w.heap.size + 7 := by rw [unhide HW2]; simp; omega
  have hB0 : Below w.heap.size w W0 := by rw [unhide HW2]; exact ((((hB1.alloc (by omega) _).alloc (by simp; omega) _).alloc (by simp; omega) _).alloc (by simp; omega) _).alloc (by simp; omega) _
  have hgl : gl < w.heap.size := (Array.getElem?_eq_some_iff.1 hgh).1
  have hmid0 : MidAt W0 w.heap.size (.slice (some ⟨gl, 0, none⟩) 17408 capl) (.slice none 0 0) (.slice (some ⟨w.heap.size + 3, 0, none⟩) 0 272) [] [] := by
    have hb10 : Below w1.heap.size w1 W0 := by rw [unhide HW2]; exact ((((((Below.refl _ w1).alloc (Nat.le_refl _) _).alloc (by simp) _).alloc (by simp; omega) _).alloc (by simp; omega) _).alloc (by simp; omega) _)
    have e2 : W0.heap[w.heap.size + 2]? = some (.cells #[.pointer (some ⟨w.heap.size + 1, 0, none⟩)] 162 (0, 0)) := by
      rw [unhide HW2]
      exact heap_al (heap_al (heap_al (heap_al (heap_at _ _ (by omega)) _) _) _) _
    have e3 : W0.heap[w.heap.size + 3]? = some (.cells M1 34 (0, 0)) := by
      rw [unhide HW2]
      exact heap_al (heap_al (heap_al (heap_at _ _ (by simp; omega)) _) _) _
    have e4 : W0.heap[w.heap.size + 4]? = some (.cells #[.slice (some ⟨w.heap.size + 3, 0, none⟩) 0 272] 24 (0, 0)) := by
      rw [unhide HW2]
      exact heap_al (heap_al (heap_at _ _ (by simp; omega)) _) _
    have e5 : W0.heap[w.heap.size + 5]? = some (.cells #[.slice (some ⟨gl, 0, none⟩) 17408 capl] 24 (0, 0)) := by
      rw [unhide HW2]
      exact heap_al (heap_at _ _ (by simp; omega)) _
    have e6 : W0.heap[w.heap.size + 6]? = some (.cells #[.int .i64 64] 3 (0, 0)) := by
      rw [unhide HW2]
      exact heap_at _ _ (by simp; omega)
    exact ⟨hN1.below hb10, e2, e4, VW.RowE.of (by omega) e3 rfl (Nat.zero_le _) (by unfold maxLen; omega) hM1 rfl, e5, e6, fun g e => by rw [blk_zero] at e; cases e⟩
  have HW := hide (And.intro hsz0 (And.intro hB0 (And.intro hgl hmid0)))
  have hB := hB0
  clear hN1 hs1 hB1 HH HW2 HNN
  have hbx1 := hmid0.c1
  have hbx2 := hmid0.c2
  refine range4G (by omega) (gf := 121) (lb := #[.pointer (some ⟨w.heap.size + 2 + 1 + 1 + 1, 0, none⟩), .pointer (some ⟨w.heap.size + 2 + 1 + 1 + 1 + 1, 0, none⟩)]) rfl (enters_of Try.func121 (by kernel_rfl) rfl)
    (chunk_gives (w.heap.size + 5) (w.heap.size + 6) gl capl 272 (by omega) (by omega) (by assumption) W0 hbx1 hbx2 _ (by omega)) (Below.refl _ _) (fun _ => rfl)
    (fun pre V => ∃ j, pre = List.range j ∧ ∃ v u, MidAt V w.heap.size (.slice (some ⟨gl, 0, none⟩) 17408 capl) v u (midI vs j).1 ((midI vs j).2.map Int.ofNat) ∧ Below w.heap.size w V)
    (fun c pre V => False) ?own (fun c => own_pure _ _) (CalmR.none _ _ _) ⟨0, rfl, _, _, hmid0, hB0⟩ (fun x => { tmps := #[.pointer (some ⟨mk, 0, none⟩), undef, .pointer none, .pointer (some ⟨w.heap.size + 2, 0, none⟩), .pointer (some ⟨w.heap.size + 2 + 1 + 1, 0, none⟩), .slice (some ⟨gl, 64 * x, none⟩) 64 64, .pointer (some ⟨w.heap.size + 1, 0, none⟩), .slice (some ⟨w.heap.size + 2 + 1, 0, none⟩) 0 272, .pointer (some ⟨mk, 0, none⟩), .pointer (some ⟨mk, 0, none⟩), .pointer (some ⟨mk, 1, none⟩), .slice (some ⟨gl, 0, none⟩) 17408 capl, .func (.func 121) #[] #[.pointer (some ⟨w.heap.size + 2 + 1 + 1 + 1, 0, none⟩), .pointer (some ⟨w.heap.size + 2 + 1 + 1 + 1 + 1, 0, none⟩)], .slice (some ⟨gl, 64 * x, none⟩) 64 64, undef, undef, undef, undef, undef, undef, undef, undef, undef, undef, undef, undef, undef, undef, undef, undef, undef, undef, undef, undef, undef], defers := [] }) ?assign ?body ?done ?stop
  case own =>
    rintro pre W W' row ⟨j, e, v, u, h1, h2⟩ hg hr
    exact ⟨j, e, v, u, h1.own (by omega) hg hr, h2.grown hg (by have := h2.size; omega) (fun k hk => by have := (hr k hk).1; omega)⟩
  case assign =>
    intro l2 x V K hK
    simp only [chE]
    gi_wp2
    exact hK
  case body =>
    rintro l2 pre x V hl2 hsz2 ⟨r, hr⟩ ⟨j, rfl, v, u, h1, h2⟩ ⟨j2, hj2, hjx⟩
    have hx : x = j ∧ j < 272 := by
      have e1 : j2 = j + 1 := by have := congrArg List.length hjx; simpa using this.symm
      subst e1
      rw [List.range_succ] at hjx
      have := List.append_cancel_left hjx
      exact ⟨(List.cons.inj this).1, by omega⟩
    obtain ⟨rfl, hx272⟩ := hx
    have hsucc := midI_succ (vs := vs) x
    have hlen := midI_len (vs := vs) x
    have hle := midI_le (vs := vs) x
    have hbl := blkI_len hl hx272
    have hob : VW.OkB (blkI vs x) := ⟨hbl, fun y hy => by
      have := blkI_ok hl x y hy
      show (Lit.int .u16 y).wf = true
      simp [Lit.wf, IntKind.min, IntKind.max, IntKind.signed, IntKind.bits]
      omega⟩
    have hcell : ∀ W' : World, W'.heap[gl]? = w.heap[gl]? → ∀ q y, (blkI vs x)[q]? = some y → W'.cell? ⟨gl, 64 * x + q, none⟩ = some (VW.enc y) := fun W' hW' q y hq => by
      have hq64 : q < 64 := by have := (List.getElem?_eq_some_iff.1 hq).1; omega
      rw [blkI_at hq64] at hq
      have hh : W'.heap[gl]? = _ := hW'.trans hgh
      exact row_cell hh hgt (by rw [List.length_map, whole_len, hl] at *; omega) (64 * x + q) _ (by rw [List.getElem?_map]; rw [show ((whole vs).2.map Int.ofNat) = laidI vs from rfl, hq]; rfl)
    generalize hbk : blkI vs x = bk at *
    generalize hbs : (midI vs x).1 = bs at *
    obtain ⟨no, hno⟩ : ∃ no, no = (numS bs bk).2 := ⟨_, rfl⟩
    obtain ⟨ls, hls⟩ : ∃ ls, ls = (midI vs x).2.map Int.ofNat := ⟨_, rfl⟩
    rw [← hls] at h1
    have hlsl : ls.length = x := by rw [hls, List.length_map, hlen]
    obtain ⟨S1, hS1⟩ : ∃ S1 : Value → World → Prop, S1 = fun v1 V1 => MidAt V1 w.heap.size (.slice (some ⟨gl, 0, none⟩) 17408 capl) v1 u (numS bs bk).1 ls ∧ MidK V V1 w.heap.size v u ∧ Below w.heap.size w V1 ∧ (blk v1 = blk v ∨ ∀ i, blk v1 = some i → V.heap.size ≤ i) := ⟨_, rfl⟩
    obtain ⟨S3, hS3⟩ : ∃ S3 : World → Prop, S3 = fun V3 => ∃ v1 u1, MidAt V3 w.heap.size (.slice (some ⟨gl, 0, none⟩) 17408 capl) v1 u1 (numS bs bk).1 (ls ++ [(no : Int)]) ∧ MidK V V3 w.heap.size v u ∧ Below w.heap.size w V3 := ⟨_, rfl⟩
    have HS1 := hide hS1
    have HS3 := hide hS3
    have HNO := hide hno
    refine wpIn_block ?_
    obtain ⟨Inv, hInv⟩ : ∃ Inv : (Nat → Bool) → Act → World → Prop, Inv = (fun D a' V' => ∃ x14 x15 x16 x17 x18 x19 : Value, a' = { tmps := #[.pointer (some ⟨mk, 0, none⟩), undef, .pointer none, .pointer (some ⟨w.heap.size + 2, 0, none⟩), .pointer (some ⟨w.heap.size + 2 + 1 + 1, 0, none⟩), .slice (some ⟨gl, 64 * x, none⟩) 64 64, .pointer (some ⟨w.heap.size + 1, 0, none⟩), .slice (some ⟨w.heap.size + 2 + 1, 0, none⟩) 0 272, .pointer (some ⟨mk, 0, none⟩), .pointer (some ⟨mk, 0, none⟩), .pointer (some ⟨mk, 1, none⟩), .slice (some ⟨gl, 0, none⟩) 17408 capl, .func (.func 121) #[] #[.pointer (some ⟨w.heap.size + 2 + 1 + 1 + 1, 0, none⟩), .pointer (some ⟨w.heap.size + 2 + 1 + 1 + 1 + 1, 0, none⟩)], .slice (some ⟨gl, 64 * x, none⟩) 64 64, x14, x15, x16, x17, x18, x19, undef, undef, undef, undef, undef, undef, undef, undef, undef, undef, undef, undef, undef, undef, undef], defers := [] } ∧ (D 0 = true → x14 = u) ∧ (D 1 = true → x15 = .pointer (some ⟨w.heap.size + 1, 0, none⟩)) ∧ (D 2 = true → x16 = .slice (some ⟨gl, 64 * x, none⟩) 64 64) ∧ (D 3 = false → V' = V.drew) ∧
        (D 3 = true → x17 = .int .u16 (no : Int) ∧ (D 4 = false → ∃ v1, S1 v1 V')) ∧ (D 4 = true → D 5 = false → ∃ v1 V1, S1 v1 V1 ∧ V' = V1.alloc (.cells #[.int .u16 (no : Int)] 34) ∧ x18 = .slice (some ⟨V1.heap.size, 0, none⟩) 1 1) ∧
        (D 5 = true → D 6 = false → ∃ v1 V1, S1 v1 V1 ∧ VW.TurnedE (V1.alloc (.cells #[.int .u16 (no : Int)] 34)) V' w.heap.size u x19 (ls ++ [(no : Int)])) ∧ (D 6 = true → S3 V')) := ⟨_, rfl⟩
    have HInv := hide hInv
    clear hInv hS1 hS3 hno
    refine RegInv.region Inv (by kernel_rfl) (by kernel_rfl) (by kernel_rfl) ?h0 ?hs ?he
    case h0 =>
      rw [unhide HInv]
      exact ⟨undef, undef, undef, undef, undef, undef, rfl, fun h => (by cases h), fun h => (by cases h), fun h => (by cases h), fun _ => rfl, fun h => (by cases h), fun h => (by cases h), fun h => (by cases h), fun h => (by cases h)⟩
    case he =>
      intro D a' V' hall hI
      rw [unhide HInv] at hI
      obtain ⟨x14, x15, x16, x17, x18, x19, -, -, -, -, -, -, -, -, hfin⟩ := hI
      have h3 := hfin (hall 6 (by decide))
      rw [unhide HS3] at h3
      obtain ⟨v1, u1, hm, hk, hb⟩ := h3
      have hcl : ∀ k (ob : Obj), V.heap[k]? = some ob → ob.isCells = false → blk v ≠ some k ∧ blk u ≠ some k := fun k ob hk ho => by
        constructor
        · intro e
          obtain ⟨cur, hc⟩ := rowW_cells h1.hn.hv e
          rw [hc] at hk; cases hk; cases ho
        · intro e
          obtain ⟨cur, hc⟩ := rowW_cells h1.hr e
          rw [hc] at hk; cases hk; cases ho
      have hty : ∀ k (t : TypeId) cs, t ≠ 34 → V.heap[k]? = some (.cells cs t (0, 0)) → blk v ≠ some k ∧ blk u ≠ some k := fun k t cs ht hk => by
        constructor
        · intro e
          obtain ⟨cur, hc⟩ := rowW_cells h1.hn.hv e
          rw [hc] at hk; injection hk with hk; injection hk with _ e2; exact ht e2.symm
        · intro e
          obtain ⟨cur, hc⟩ := rowW_cells h1.hr e
          rw [hc] at hk; injection hk with hk; injection hk with _ e2; exact ht e2.symm
      have hb1 := hty _ _ _ (by decide) h1.c1
      have hb2 := hty _ _ _ (by decide) h1.c2
      refine ⟨⟨hk.1, fun k ob hBk hob ho => ?_⟩, ⟨⟨hk.1⟩, fun k ob hkk hcc hob => ?_⟩, x + 1, ?_, v1, u1, ?_, hb⟩
      · have := (Array.getElem?_eq_some_iff.1 hob).1
        exact (hk.2 k this (by omega) (by omega) (by omega) (hcl k ob hob ho).1 (hcl k ob hob ho).2).trans hob
      · have hkV := (Array.getElem?_eq_some_iff.1 hob).1
        rcases hkk with hkk | rfl | rfl
        · omega
        · exact (hk.2 _ hkV (by omega) (by omega) (by omega) hb1.1 hb1.2).trans hob
        · exact (hk.2 _ hkV (by omega) (by omega) (by omega) hb2.1 hb2.2).trans hob
      · exact (List.range_succ).symm
      · rw [hsucc]
        simp only
        rw [List.map_append, ← hls, ← unhide HNO]
        exact hm
    case hs =>
      have h1d := h1
      refine ⟨?o0, ?o1, ?o2, ?o3, ?o4, ?o5, ?o6, trivial⟩
      case o0 =>
          rintro D a' V' hn hd hdn hI
          rw [unhide HInv] at hI
          obtain ⟨x14, x15, x16, x17, x18, x19, rfl, c0, c1, c2, c3, c4, c5, c6, c7⟩ := hI
          have n5 : D 5 = false := by
            cases h9 : D 5 with
            | false => rfl
            | true =>
              have e0 := h9
              have e0 := hdn 5 _ rfl e0 0 (by decide)
              rw [hn] at e0; cases e0
          have n6 : D 6 = false := by
            cases h9 : D 6 with
            | false => rfl
            | true =>
              have e0 := h9
              have e0 := hdn 6 _ rfl e0 5 (by decide)
              have e0 := hdn 5 _ rfl e0 0 (by decide)
              rw [hn] at e0; cases e0
          obtain ⟨v2, bs2, hm2⟩ : ∃ v2 bs2, MidAt V' w.heap.size (.slice (some ⟨gl, 0, none⟩) 17408 capl) v2 u bs2 ls := by
            cases h3 : D 3 with
            | false => rw [c3 h3]; exact ⟨v, bs, h1.below (Below.refl _ _).drew⟩
            | true =>
              cases h4 : D 4 with
              | false =>
                obtain ⟨v1, hv1⟩ := (c4 h3).2 h4
                rw [unhide HS1] at hv1
                exact ⟨v1, _, hv1.1⟩
              | true =>
                obtain ⟨v1, V1, hv1, rfl, _⟩ := c5 h4 n5
                rw [unhide HS1] at hv1
                exact ⟨v1, _, hv1.1.below ((Below.refl _ _).alloc (Nat.le_refl _) _)⟩
          have g0 : V'.cell? ⟨w.heap.size + 2 + 1 + 1, 0, none⟩ = some u := by
            have := hm2.ht
            show V'.cell? ⟨w.heap.size + 4, 0, none⟩ = some u
            simp [World.cell?, this]
          clear hm2
          gi_wp2
          show Inv _ _ _
          rw [unhide HInv]
          exact ⟨_, x15, x16, x17, x18, x19, rfl, fun _ => rfl, fun h => c1 (by simpa using h), fun h => c2 (by simpa using h), fun h => c3 (by simpa using h), fun h => ⟨(c4 (by simpa using h)).1, fun h' => (c4 (by simpa using h)).2 (by simpa using h')⟩, fun h h' => c5 (by simpa using h) (by simpa using h'), fun h h' => c6 (by simpa using h) (by simpa using h'), fun h => c7 (by simpa using h)⟩
      case o1 =>
          rintro D a' V' hn hd hdn hI
          rw [unhide HInv] at hI
          obtain ⟨x14, x15, x16, x17, x18, x19, rfl, c0, c1, c2, c3, c4, c5, c6, c7⟩ := hI
          have n3 : D 3 = false := by
            cases h9 : D 3 with
            | false => rfl
            | true =>
              have e0 := h9
              have e0 := hdn 3 _ rfl e0 1 (by decide)
              rw [hn] at e0; cases e0
          obtain rfl := c3 n3
          have g0 : V.drew.cell? ⟨w.heap.size + 2, 0, none⟩ = some (.pointer (some ⟨w.heap.size + 1, 0, none⟩)) := by
            have := (h1.below (Below.refl _ _).drew).hb
            simp [World.cell?, this]
          gi_wp2
          show Inv _ _ _
          rw [unhide HInv]
          exact ⟨x14, _, x16, x17, x18, x19, rfl, fun h => c0 (by simpa using h), fun _ => rfl, fun h => c2 (by simpa using h), fun _ => rfl, fun h => ⟨(c4 (by simpa using h)).1, fun h' => (c4 (by simpa using h)).2 (by simpa using h')⟩, fun h h' => c5 (by simpa using h) (by simpa using h'), fun h h' => c6 (by simpa using h) (by simpa using h'), fun h => c7 (by simpa using h)⟩
      case o2 =>
          rintro D a' V' hn hd hdn hI
          rw [unhide HInv] at hI
          obtain ⟨x14, x15, x16, x17, x18, x19, rfl, c0, c1, c2, c3, c4, c5, c6, c7⟩ := hI
          gi_wp2
          show Inv _ _ _
          rw [unhide HInv]
          exact ⟨x14, x15, _, x17, x18, x19, rfl, fun h => c0 (by simpa using h), fun h => c1 (by simpa using h), fun _ => rfl, fun h => c3 (by simpa using h), fun h => ⟨(c4 (by simpa using h)).1, fun h' => (c4 (by simpa using h)).2 (by simpa using h')⟩, fun h h' => c5 (by simpa using h) (by simpa using h'), fun h h' => c6 (by simpa using h) (by simpa using h'), fun h => c7 (by simpa using h)⟩
      case o3 =>
          rintro D a' V' hn hd hdn hI
          rw [unhide HInv] at hI
          obtain ⟨x14, x15, x16, x17, x18, x19, rfl, c0, c1, c2, c3, c4, c5, c6, c7⟩ := hI
          have n4 : D 4 = false := by
            cases h9 : D 4 with
            | false => rfl
            | true =>
              have e0 := h9
              have e0 := hdn 4 _ rfl e0 3 (by decide)
              rw [hn] at e0; cases e0
          have n5 : D 5 = false := by
            cases h9 : D 5 with
            | false => rfl
            | true =>
              have e0 := h9
              have e0 := hdn 5 _ rfl e0 4 (by decide)
              have e0 := hdn 4 _ rfl e0 3 (by decide)
              rw [hn] at e0; cases e0
          have n6 : D 6 = false := by
            cases h9 : D 6 with
            | false => rfl
            | true =>
              have e0 := h9
              have e0 := hdn 6 _ rfl e0 5 (by decide)
              have e0 := hdn 5 _ rfl e0 4 (by decide)
              have e0 := hdn 4 _ rfl e0 3 (by decide)
              rw [hn] at e0; cases e0
          obtain rfl := c1 (hd 1 (by decide))
          obtain rfl := c2 (hd 2 (by decide))
          obtain rfl := c3 hn
          have h1v := h1.below (Below.refl _ _).drew
          have HL := hide (fun m => (callsIn_wide (n := m) |>.2 (VW.number_any V.drew w.heap.size (w.heap.size + 1) w.heap.size v bs h1v.hn gl (64 * x) 64 bk hob (hcell V.drew (h2.block gl hgl)) (by omega))).inRound l2)
          have H1V := hide (And.intro h1 (And.intro h1v h2))
          clear h1 h1d h1v h2
          gi_wp2_with (gi_at_call 95; with_reducible refine CallsIn.mono (unhide HL _) ?_; rintro e w4 ⟨rfl, v4, hn4, hk4, hb4⟩)
          obtain ⟨h1, h1v, h2⟩ := unhide H1V
          have hnum := h1v.numbered hn4 hk4
          show Inv _ _ _
          rw [unhide HInv]
          have hs1 : S1 v4 w4 := by
            rw [unhide HS1]
            exact ⟨hnum.1, hnum.2, (h2.drew).trans hb4, hk4.2.2⟩
          exact ⟨x14, _, _, _, x18, x19, rfl, fun h => c0 (by simpa using h), fun _ => rfl, fun _ => rfl, fun h => (by simp at h), fun _ => ⟨by rw [unhide HNO], fun _ => ⟨v4, hs1⟩⟩, fun h => (by simp [n4] at h), fun h => (by simp [n5] at h), fun h => (by simp [n6] at h)⟩
      case o4 =>
          rintro D a' V' hn hd hdn hI
          rw [unhide HInv] at hI
          obtain ⟨x14, x15, x16, x17, x18, x19, rfl, c0, c1, c2, c3, c4, c5, c6, c7⟩ := hI
          have n5 : D 5 = false := by
            cases h9 : D 5 with
            | false => rfl
            | true =>
              have e0 := h9
              have e0 := hdn 5 _ rfl e0 4 (by decide)
              rw [hn] at e0; cases e0
          have n6 : D 6 = false := by
            cases h9 : D 6 with
            | false => rfl
            | true =>
              have e0 := h9
              have e0 := hdn 6 _ rfl e0 5 (by decide)
              have e0 := hdn 5 _ rfl e0 4 (by decide)
              rw [hn] at e0; cases e0
          obtain ⟨rfl, c4b⟩ := c4 (hd 3 (by decide))
          obtain ⟨v1, hv1⟩ := c4b hn
          have d3 := hd 3 (by decide)
          gi_wp2
          show Inv _ _ _
          rw [unhide HInv]
          exact ⟨x14, x15, x16, _, _, x19, rfl, fun h => c0 (by simpa using h), fun h => c1 (by simpa using h), fun h => c2 (by simpa using h), fun h => (by simp [d3] at h), fun _ => ⟨rfl, fun h => (by simp at h)⟩, fun _ _ => ⟨v1, V', hv1, rfl, rfl⟩, fun h => (by simp [n5] at h), fun h => (by simp [n6] at h)⟩
      case o5 =>
          rintro D a' V' hn hd hdn hI
          rw [unhide HInv] at hI
          obtain ⟨x14, x15, x16, x17, x18, x19, rfl, c0, c1, c2, c3, c4, c5, c6, c7⟩ := hI
          have n6 : D 6 = false := by
            cases h9 : D 6 with
            | false => rfl
            | true =>
              have e0 := h9
              have e0 := hdn 6 _ rfl e0 5 (by decide)
              rw [hn] at e0; cases e0
          obtain rfl := c0 (hd 0 (by decide))
          have d4 := hd 4 (by decide)
          have d3 := hdn 4 _ rfl d4 3 (by decide)
          obtain ⟨v1, V1, hv1, rfl, rfl⟩ := c5 d4 hn
          have hv1' := hv1
          rw [unhide HS1] at hv1'
          have hm1 := hv1'.1
          have hsz1 := hm1.size
          have HAPP := hide (VW.append_es w.heap.size V1.heap.size x14 (.slice (some ⟨V1.heap.size, 0, none⟩) 1 1) ls [(no : Int)] (V1.alloc (.cells #[.int .u16 (no : Int)] 34)) (by simp; omega) (hm1.hr.below ((Below.refl _ _).alloc (Nat.le_refl _) _)) (rowW_one V1 no) (by simp only [List.length_cons, List.length_nil]; omega))
          refine wpListIn_appendT rfl _ _ _ _ rfl _ _ rfl rfl (unhide HAPP) ?_
          rintro v5 w5 hT
          show Inv _ _ _
          rw [unhide HInv]
          exact ⟨_, x15, x16, x17, _, _, rfl, fun _ => rfl, fun h => c1 (by simpa using h), fun h => c2 (by simpa using h), fun h => (by simp [d3] at h), fun h => ⟨(c4 d3).1, fun h => (by simp [d4] at h)⟩, fun _ h => (by simp at h), fun _ _ => ⟨v1, V1, hv1, hT⟩, fun h => (by simp [n6] at h)⟩
      case o6 =>
          rintro D a' V' hn hd hdn hI
          rw [unhide HInv] at hI
          obtain ⟨x14, x15, x16, x17, x18, x19, rfl, c0, c1, c2, c3, c4, c5, c6, c7⟩ := hI
          have d5 := hd 5 (by decide)
          have d4 := hdn 5 _ rfl d5 4 (by decide)
          have d3 := hdn 4 _ rfl d4 3 (by decide)
          obtain ⟨v1, V1, hv1, hT⟩ := c6 d5 hn
          obtain ⟨rfl, _⟩ := c4 d3
          rw [unhide HS1] at hv1
          obtain ⟨hm1, hk1', hb1', hbl1⟩ := hv1
          have hN : (ls ++ [(no : Int)]).length = x + 1 := by rw [List.length_append, hlsl]; rfl
          obtain ⟨au, cu, rfl⟩ : ∃ a c, x19 = .slice a (x + 1) c := by
            obtain ⟨a, c, e, _⟩ := hT.1.form
            rw [hN] at e
            exact ⟨a, c, e⟩
          obtain ⟨h4, hm3, hk3⟩ := hm1.topped ((Below.refl _ _).alloc (Nat.le_refl _) _) hT
          have g0 : V'.cell? ⟨w.heap.size + 2 + 1 + 1, 0, none⟩ = some u := by
            show V'.cell? ⟨w.heap.size + 4, 0, none⟩ = some u
            simp [World.cell?, h4]
          have f0 : V'.frozen? ⟨w.heap.size + 2 + 1 + 1, 0, none⟩ = false := by
            show V'.frozen? ⟨w.heap.size + 4, 0, none⟩ = false
            simp [World.frozen?, h4]
          have hs3 : S3 (V'.setCell ⟨w.heap.size + 2 + 1 + 1, 0, none⟩ (.slice au (x + 1) cu)) := by
            show S3 (V'.setCell ⟨w.heap.size + 4, 0, none⟩ (.slice au (x + 1) cu))
            rw [unhide HS3]
            refine ⟨v1, _, hm3, hk1'.trans hk3 hbl1 (.inl rfl), ?_⟩
            have hb5 : Below w.heap.size w V' := (hb1'.alloc hb1'.size _).grown hT.2.1 (by simp; exact Nat.le_trans hb1'.size (Nat.le_succ _)) (fun k hk => (hm1.hr.lt k hk).1)
            exact hb5.setCell (p := ⟨w.heap.size + 4, 0, none⟩) (by simp) _
          have HS := hide hs3
          clear hs3 hm3 hk3 h4 hT hm1 hk1' hb1'
          gi_wp2
          show Inv _ _ _
          rw [unhide HInv]
          exact ⟨x14, x15, x16, _, x18, _, rfl, fun h => c0 (by simpa using h), fun h => c1 (by simpa using h), fun h => c2 (by simpa using h), fun h => (by simp [d3] at h), fun h => ⟨rfl, fun h => (by simp [d4] at h)⟩, fun _ h => (by simp [d5] at h), fun _ h => (by simp at h), fun _ => unhide HS⟩
  case done =>
    rintro D xs V hD hS ⟨j, rfl, v, u, h1, h2⟩ hK
    have hj : j = 272 := by have := congrArg List.length hS; simpa using this
    subst hj
    obtain ⟨q1, q2⟩ := midI_all hl
    obtain ⟨ua, un, uc, rfl⟩ : ∃ a n c, u = .slice a n c := by
      obtain ⟨a, c, e, _⟩ := h1.hr.form
      exact ⟨a, _, c, e⟩
    obtain ⟨va, vn, vc, rfl⟩ : ∃ a n c, v = .slice a n c := by
      obtain ⟨a, c, e, _⟩ := h1.hn.hv.form
      exact ⟨a, _, c, e⟩
    obtain ⟨la, ln, lc, rfl⟩ : ∃ a n c, v0 = .slice a n c := by
      obtain ⟨a, c, e, _⟩ := hM.hn.hv.form
      exact ⟨a, _, c, e⟩
    have p4 : V.cell? ⟨w.heap.size + 2 + 1 + 1, 0, none⟩ = some (.slice ua un uc) := by
      have := h1.ht
      show V.cell? ⟨w.heap.size + 4, 0, none⟩ = some (.slice ua un uc)
      simp [World.cell?, this]
    have p2 : V.cell? ⟨w.heap.size + 2, 0, none⟩ = some (.pointer (some ⟨w.heap.size + 1, 0, none⟩)) := by
      have := h1.hb
      simp [World.cell?, this]
    have pn : V.cell? ⟨w.heap.size + 1, 1, none⟩ = some (.slice va vn vc) := by
      have := h1.hn.hn
      simp [World.cell?, this]
    have pm : V.cell? ⟨mk, 0, none⟩ = some (.pointer (some ⟨bn0, 0, none⟩)) := (h2.cell (p := ⟨mk, 0, none⟩) hM.lt).trans (cell3 hM.hk).1
    have pl : V.cell? ⟨bn0, 1, none⟩ = some (.slice la ln lc) := by
      have := hM.hn.hn
      exact (h2.cell (p := ⟨bn0, 1, none⟩) hM.hn.lt.1).trans (by simp [World.cell?, this])
    have HF2 := hide (And.intro h1 (And.intro h2 (And.intro hM (And.intro q1 q2))))
    have HK := hide hK
    clear h1 h2 hM q1 q2 hmid0 hbx1 hbx2 hS
    gi_wp2
    gi_region
    gi_wp2
    obtain ⟨h1, h2, hM, q1, q2⟩ := unhide HF2
    have hDl := (Array.getElem?_eq_some_iff.1 (unhide HK)).1
    have hK2 : ((V.alloc (Obj.cells #[.slice ua un uc, .slice va vn vc, .slice la ln lc] 104)).drew).heap[D]? = some (.deferred (some [])) := (Below.heap_alloc V _ _ hDl).trans (unhide HK)
    refine ⟨by simp, .inl ⟨_, _, rfl, run_takeDeferred hK2, ?_⟩⟩
    have hkeep : ∀ (X Y : Obj) (g : Nat) cur t fr, V.heap[g]? = some (.cells cur t fr) → (((V.alloc X).drew).putObj D Y).heap[g]? = V.heap[g]? := fun X Y g cur t fr hg => by
      have hgl := (Array.getElem?_eq_some_iff.1 hg).1
      refine (World.putObj_heap_other (fun e => ?_)).trans (Below.heap_alloc V X g hgl)
      subst e
      rw [unhide HK] at hg
      cases hg
    refine ⟨_, results_tmp rfl _ _ _, ?_⟩
    show Q (.returned (.pointer (some ⟨V.heap.size, 0, none⟩))) _
    refine unhide hQ _ V.heap.size (.slice ua un uc) (.slice va vn vc) (.slice la ln lc) ⟨?_, ?_, ?_, ?_, hl⟩ ?_ (by have := h2.size; omega)
    · refine (World.putObj_heap_other (by omega)).trans ?_
      exact heap_alloc_new V _
    · rw [← q2]
      refine (VW.RowE.mono h1.hr (by have := hM.bB; have := hM.lt; omega)).kept fun g e => ?_
      obtain ⟨cur, hc⟩ := rowW_cells h1.hr e
      exact hkeep _ _ g _ _ _ hc
    · rw [← q1]
      refine (VW.RowE.mono h1.hn.hv (by have := hM.bB; have := hM.lt; omega)).kept fun g e => ?_
      obtain ⟨cur, hc⟩ := rowW_cells h1.hn.hv e
      exact hkeep _ _ g _ _ _ hc
    · refine hM.hn.hv.kept fun g e => ?_
      have hgw := (hM.hn.hv.lt g e).2
      refine (World.putObj_heap_other (by omega)).trans ((Below.heap_alloc V _ g (by have := h2.size; omega)).trans (h2.block g hgw))
    · exact below_put ((h2.alloc h2.size _).drew) (by omega) _
  case stop => rintro D c pre V _ _ h; exact h.elim
end Go.Proofs.Ytokillomaemocaa.VU
