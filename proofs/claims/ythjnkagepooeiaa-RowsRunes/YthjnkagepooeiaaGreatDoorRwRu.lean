/-
  Runes of package rows: a copy of the rows, and the iterator over their numbers.
-/
import Derived.Test.YthjnkagepooeiaaGreatDoorRwLe
import Derived.Test.YthjnkagepooeiaaGreatDoorRwOneM
import Derived.Lib.MinMax
namespace Go.Proofs.YthjnkagepooeiaaGreatDoor
open Go.RowKit Go.PlainAid Go.Lib Go.PHexM Go.Shelf Go.Seq4
attribute [local go_sem] Oper.semAt_some
set_option linter.unusedVariables false
set_option linter.unusedSimpArgs false

theorem eqNilR_some (x : Addr) (n c : Nat) (w : World) : (binOp .eql 37 (.slice (some x) n c) (.slice none 0 0)).run Tryz.prog w = .ok (.bool false) w := by kernel_rfl
theorem eqNilR_none (n c : Nat) (w : World) : (binOp .eql 37 (.slice none n c) (.slice none 0 0)).run Tryz.prog w = .ok (.bool true) w := by kernel_rfl
set_option maxRecDepth 100000 in
set_option maxHeartbeats 2000000 in
theorem clone6_any (rs : List RowD) (a : Option Addr) (n c : Nat) (w : World) (hn : rs.length = n) (hc : n ≤ c) (hb : n ≤ 1099511627776) (h : RwMem w a rs) :
    Calls Tryz.prog 53 #[.slice a n c] w fun e w' => ∃ v, e = .returned v ∧ RowsAt w' w.heap.size v rs ∧ Below w.heap.size w w' := by
  cases a with
  | none =>
    obtain rfl : rs = [] := by
      cases rs with
      | nil => rfl
      | cons x l => obtain ⟨g, off, e, _⟩ := h 0 x rfl; cases e
    refine Calls.mono (R := fun e w' => e = .returned (.slice none 0 0) ∧ w' = w) ?_ ?_
    · have hqn := eqNilR_none
      clear h hn
      go_enter Tryz.func53, Tryz.ntmps53
      go_wp2
      all_goals go_ret
      all_goals exact ⟨rfl, rfl⟩
    · rintro e w' ⟨rfl, rfl⟩
      exact ⟨_, rfl, World.ownsRow_nil _ _ _ _, Below.refl _ _⟩
  | some ad =>
    obtain ⟨W1, hW1⟩ : ∃ W1, w.alloc (.cells #[] 29) = W1 := ⟨_, rfl⟩
    have hB1 : Below w.heap.size w W1 := by rw [← hW1]; exact (Below.refl _ w).alloc (Nat.le_refl _) _
    have hs1 : W1.heap.size = w.heap.size + 1 := by rw [← hW1]; simp
    have hown : W1.ownsRow w.heap.size 29 9 (.slice (some ⟨w.heap.size, 0, none⟩) 0 0) 0 [] := by
      refine ⟨rfl, .inr ⟨w.heap.size, 0, #[], rfl, Nat.le_refl _, ?_, Nat.le_refl _, by unfold maxLen; omega, rfl, rfl⟩⟩
      rw [← hW1]; exact heap_alloc_new w _
    have HRW := hide (h.below hB1)
    have HOW := hide hown
    have HN := hide hn
    clear h hn hown
    refine Calls.mono (R := fun e w' => Hid (∃ v', e = .returned v' ∧ w'.ownsRow w.heap.size 29 9 v' (0 + n) ([] ++ rowsC rs) ∧ W1.grownBy w' (Value.slice (some ⟨w.heap.size, 0, none⟩) 0 0).ownBlock)) ?_ ?_
    · have hqn := eqNilR_some
      go_enter Tryz.func53, Tryz.ntmps53
      go_wp2_with (at_builtin; refine wpList_append_rw rfl _ _ rfl w.heap.size _ 0 [] rfl (unhide HOW) _ _ _ rs rfl (unhide HN) hc (unhide HRW) (by unfold maxLen; omega) (by omega) (by omega) ?_; intro v' w' r2 r3)
      all_goals go_ret
      all_goals exact hide ⟨_, rfl, r2, r3⟩
    · rintro e w' hh
      obtain ⟨v', rfl, r2, r3⟩ := unhide hh
      refine ⟨v', rfl, ?_, belowG hB1 (by omega) (unhide HOW) r3⟩
      unfold RowsAt
      rw [unhide HN]
      simpa using r2
theorem runesf_any (va : Value) (w : World) (hv : ∃ a n c, va = .slice a n c) : Calls Tryz.prog 52 #[va] w fun e w' => e = .returned (.func (.func 82) #[] #[.pointer (some ⟨w.heap.size, 0, none⟩)]) ∧ w' = w.alloc (.cells #[va] 37) := by
  obtain ⟨a, n, c, rfl⟩ := hv
  go_enter Tryz.func52, Tryz.ntmps52
  go_wp2
  go_ret
  exact ⟨rfl, rfl⟩
/-- an iterator over the numbers of rows -/
def RunesAt (w : World) (base : Nat) (rs : List RowD) (Bs : Nat) : Prop := ∃ a c, base ≤ Bs ∧ Boxed w Bs 37 (.slice a rs.length c) ∧ RwMem w a rs ∧ ∀ g off, a = some ⟨g, off, none⟩ → base ≤ g ∧ g < Bs
theorem RunesAt.below {w w' : World} {base : Nat} {rs : List RowD} {Bs : Nat} (h : RunesAt w base rs Bs) (hb : Below w.heap.size w w') : RunesAt w' base rs Bs := by
  obtain ⟨a, c, h1, h2, h3, h4⟩ := h
  exact ⟨a, c, h1, (hb.block _ h2.lt).trans h2, h3.below hb, h4⟩
set_option maxRecDepth 100000 in
theorem runes6_any (rs : List RowD) (a : Option Addr) (n c : Nat) (w : World) (hn : rs.length = n) (hc : n ≤ c) (hb : n ≤ 1099511627776) (h : RwMem w a rs) :
    Calls Tryz.prog 30 #[.slice a n c] w fun e w' => ∃ Bs, e = .returned (.func (.func 82) #[] #[.pointer (some ⟨Bs, 0, none⟩)]) ∧ RunesAt w' w.heap.size rs Bs ∧ Below w.heap.size w w' := by
  subst hn
  have HC := hide (clone6_any rs a rs.length c w rfl hc hb h)
  clear h
  go_enter Tryz.func30, Tryz.ntmps30
  go_wp2_with fail
  refine (unhide HC).mono ?_
  rintro e w1 ⟨v, rfl, hr, hb1⟩
  have hal : ∀ g off, (∃ k m, v = .slice (some ⟨g, off, none⟩) k m) → w.heap.size ≤ g ∧ g < w1.heap.size := by
    rintro g off ⟨k, m, rfl⟩
    rcases hr.2 with ⟨e, _⟩ | ⟨g', cap, cur, e, hb', hh', _⟩
    · cases e
    · simp at e
      obtain ⟨⟨rfl, rfl⟩, _⟩ := e
      exact ⟨hb', (Array.getElem?_eq_some_iff.1 hh').1⟩
  obtain ⟨a', c', rfl, hc', hm'⟩ := rowsAt_mem hr
  have HR := hide (runesf_any (.slice a' rs.length c') w1 ⟨_, _, _, rfl⟩)
  go_wp2_with fail
  refine (unhide HR).mono ?_
  rintro e w2 ⟨rfl, rfl⟩
  have hb2 : Below w1.heap.size w1 (w1.alloc (.cells #[.slice a' rs.length c'] 37)) := (Below.refl _ w1).alloc (Nat.le_refl _) _
  have HFIN : Hid (RunesAt (w1.alloc (.cells #[.slice a' rs.length c'] 37)) w.heap.size rs w1.heap.size ∧ Below w.heap.size w (w1.alloc (.cells #[.slice a' rs.length c'] 37))) :=
    hide ⟨⟨a', c', hb1.size, heap_alloc_new w1 _, hm'.below hb2, fun g off e => hal g off ⟨_, _, by rw [e]⟩⟩, hb1.trans (hb2.mono hb1.size)⟩
  clear hr hm' hb2 HR HC
  go_wp2
  go_ret
  exact ⟨_, rfl, (unhide HFIN).1, (unhide HFIN).2⟩

theorem RwMem.kept {W W' : World} {a : Option Addr} {rs : List RowD} (h : RwMem W a rs) (hk : ∀ g off, a = some ⟨g, off, none⟩ → ∀ o : Obj, o.isCells = true → W.heap[g]? = some o → W'.heap[g]? = some o) : RwMem W' a rs := fun i x hx => by
  obtain ⟨g, off, rfl, hc⟩ := h i x hx
  refine ⟨g, off, rfl, fun j v hv => ?_⟩
  have := hc j v hv
  obtain ⟨cs, T, fz, hh⟩ := cell_cells this
  have h2 := hk g off rfl _ rfl hh
  simp only [World.cell?, hh, h2] at this ⊢
  exact this
abbrev rrE (x : Int × RowD) : Array Value := #[.int .i32 x.1, rowV x.2]

set_option maxRecDepth 100000 in
set_option maxHeartbeats 4000000 in
theorem runes1_in (rs : List RowD) (a : Option Addr) (N c : Nat) (bs : Nat → Prop) (n l Bs : Nat) (hn : 2 ≤ n) (J Jx : List (Int × RowD) → World → Prop) (W : World)
    (hY : ∀ pre x W1, J pre W1 → (pre ++ [x]) <+: runesR rs → W.heap.size + 0 ≤ W1.heap.size → YieldAt Fence.wide (n - 1) Tryz.prog l (rrE x) W1 fun e W' =>
      (e = .returned (.bool true) ∧ J (pre ++ [x]) W' ∧ Kp4 0 bs W.heap.size W1 W') ∨ (e = .returned (.bool false) ∧ Jx (pre ++ [x]) W' ∧ KeepsFrom W.heap.size W1 W'))
    (hJ : OwnFrom W.heap.size J) (hBs : Boxed W Bs 37 (.slice a N c)) (hN : rs.length = N) (hNb : N ≤ 1099511627776) (hm : RwMem W a rs) (hfar : ∀ k, W.heap.size ≤ k → bs k) (hg : ∀ g off, a = some ⟨g, off, none⟩ → bs g) (h0 : J [] W) :
    CallsIn Fence.wide n Tryz.prog 82 #[.func (.yield l) #[] #[], .pointer (some ⟨Bs, 0, none⟩)] W fun e W' => (∃ v, e = .returned v) ∧
      ((∃ xs, xs = runesR rs ∧ J xs W') ∨ (∃ pre, pre <+: runesR rs ∧ Jx pre W')) := by
  have HYY := hide hY
  have HN := hide hN
  have HG := hide hg
  have hn1 : 1 ≤ n := by omega
  have c0 := hBs.cell
  clear hY hN hg hBs
  refine callsIn_of_wp Tryz.func82 rfl trivial ?_ rfl
  simp only [Tryz.ntmps82, List.size_toArray, List.length_cons, List.length_nil, Nat.reduceAdd, Nat.reduceSub, Array.replicate_succ, Array.replicate_zero, List.push_toArray, List.append_toArray, List.nil_append, List.cons_append]
  have hF : ∀ f, Fence.wide.fn f := fun _ => trivial
  gi_wp2
  gi_loopw [8] (fun v8 wr => ∃ i : Nat, v8 = .int .i64 i ∧ i ≤ N ∧ RwMem wr a rs ∧ J (runesR (rs.take i)) wr ∧ W.heap.size ≤ wr.heap.size) (fun v8 _ => N - (RowKit.intOf v8).toNat)
  case atStart => exact ⟨0, rfl, Nat.zero_le _, hm, h0, Nat.le_refl _⟩
  case round =>
    obtain ⟨i, rfl, hi, hmr, hJr, hsr⟩ := hrel
    clear hm h0 c0
    by_cases hlt : i < N
    · have hlt' : (i : Int) < (N : Int) := by omega
      obtain ⟨x, hx⟩ : ∃ x, rs[i]? = some x := ⟨_, List.getElem?_eq_getElem (by rw [unhide HN]; exact hlt)⟩
      obtain ⟨g, off, rfl, hc⟩ := hmr i x hx
      have cx0 := hc 0 _ rfl
      have cx1 := hc 1 _ rfl
      have cx2 := hc 2 _ rfl
      have cx3 := hc 3 _ rfl
      have cx4 := hc 4 _ rfl
      have cx5 := hc 5 _ rfl
      have cx6 := hc 6 _ rfl
      have cx7 := hc 7 _ rfl
      have cx8 := hc 8 _ rfl
      simp only [Nat.add_zero] at cx0
      have hq1 : IntKind.i64.wrap ((i : Int) + 1) = (i : Int) + 1 := by rw [IntKind.wrap_i64]; omega
      obtain ⟨V, hV⟩ : ∃ V, wr.alloc (.cells (rowC x).toArray 29) = V := ⟨_, rfl⟩
      have hVb : Below wr.heap.size wr V := by rw [← hV]; exact (Below.refl _ wr).alloc (Nat.le_refl _) _
      have xV : RowAt V wr.heap.size x := by rw [← hV]; exact heap_alloc_new wr _
      have hVs : V.heap.size = wr.heap.size + 1 := by rw [← hV]; simp
      have hV' : wr.alloc (.cells #[.int .i64 x.line, .int .i32 x.first, .int .i32 x.last, .string (S x.name), .string (S x.cat), .int .u8 x.comb, .int .u8 x.cls, .int .i32 x.twin, .bool x.mir] 29) = V := hV
      have vc0 := xV.cell (j := 0) rfl
      have vc1 := xV.cell (j := 1) rfl
      have vc2 := xV.cell (j := 2) rfl
      have hmV := hmr.below hVb
      have hJV : J (runesR (rs.take i)) V := own_grow hJ _ wr V hVb hJr
      obtain ⟨lo, hlo⟩ : ∃ lo, max x.first 0 = lo := ⟨_, rfl⟩
      obtain ⟨hi2, hhi⟩ : ∃ h, min x.last 1114111 = h := ⟨_, rfl⟩
      have hlo0 : 0 ≤ lo := by omega
      have hhim : hi2 ≤ 1114111 := by omega
      have hcn : cntR x = (hi2 + 1 - lo).toNat := by unfold cntR loR hiR; rw [hlo, hhi]
      have hlR : loR x = lo := hlo
      have HX := hide hx
      have HCN := hide hcn
      have HLR := hide hlR
      clear hV hcn hlR hx hc hmr hJr
      gi_wp2
      clear hV'
      generalize hrb : wr.heap.size = rb at *
      have HHI := hide hhi
      clear cx0 cx1 cx2 cx3 cx4 cx5 cx6 cx7 cx8
      gi_loopw [5] (fun v5 wq => ∃ k : Nat, v5 = .int .i32 (lo + k) ∧ k ≤ cntR x ∧ RwMem wq (some ⟨g, off, none⟩) rs ∧ J (runesR (rs.take i) ++ (numsR x).take k) wq ∧ RowAt wq rb x ∧ W.heap.size ≤ wq.heap.size) (fun v5 _ => (hi2 + 1 - RowKit.intOf v5).toNat)
      case atStart => exact ⟨0, by simp, Nat.zero_le _, hmV, by simpa using hJV, xV, by omega⟩
      case round =>
        obtain ⟨k, rfl, hk, hmq, hJq, hrq, hsq⟩ := hrel
        have qc1 := hrq.cell (j := 1) rfl
        have qc2 := hrq.cell (j := 2) rfl
        have qc0 := hrq.cell (j := 0) rfl
        have qc3 := hrq.cell (j := 3) rfl
        have qc4 := hrq.cell (j := 4) rfl
        have qc5 := hrq.cell (j := 5) rfl
        have qc6 := hrq.cell (j := 6) rfl
        have qc7 := hrq.cell (j := 7) rfl
        have qc8 := hrq.cell (j := 8) rfl
        have hhi' := unhide HHI
        have hcn' := unhide HCN
        by_cases hkl : k < cntR x
        · have hle : lo + (k : Int) ≤ hi2 := by omega
          have hw1 : IntKind.i32.wrap (lo + (k : Int) + 1) = lo + (k : Int) + 1 := by rw [IntKind.wrap_i32]; omega
          have hpre := runes_pre (unhide HX) hkl
          rw [unhide HLR] at hpre
          have hnt := nums_take hkl
          rw [unhide HLR] at hnt
          obtain ⟨fn, tmps, assign, body, hy, hR⟩ := unhide HYY _ (lo + (k : Int), x) wr hJq hpre (by omega)
          dsimp only [rrE, rowV] at hy
          have HPR := hide hpre
          have HNT := hide hnt
          have HRQ := hide hrq
          clear hpre hnt hhi' hcn' hrq
          gi_wp2
          refine hR.mono ?_
          rintro e W5 (⟨rfl, hJ5, hk5⟩ | ⟨rfl, hJx5, hk5⟩)
          · clear qc0 qc1 qc2 qc3 qc4 qc5 qc6 qc7 qc8
            have rb5 : RowAt W5 rb x := hk5.2.2 rb _ (.inr (hfar rb (by omega))) rfl (unhide HRQ)
            have m5 : RwMem W5 (some ⟨g, off, none⟩) rs := hmq.kept fun g' off' e o ho hx => hk5.2.2 g' o (.inr (unhide HG g' off' e)) ho hx
            have s5 := hk5.1.size
            rw [List.append_assoc, ← unhide HNT] at hJ5
            gi_wp2
            go_roundw
            case rel => exact ⟨k + 1, by first | rfl | (congr 1; omega), by omega, m5, hJ5, rb5, by omega⟩
            case measure => simp [RowKit.intOf]; omega
          · gi_wp2
            refine bodyPost_ret (results_none rfl _ _ _) rfl ?_
            exact ⟨⟨_, rfl⟩, .inr ⟨_, unhide HPR, hJx5⟩⟩
        · obtain rfl : k = cntR x := by omega
          have hle : ¬ lo + ((cntR x : Nat) : Int) ≤ hi2 := by omega
          have hta : (numsR x).take (cntR x) = numsR x := List.take_of_length_le (by rw [nums_len]; exact Nat.le_refl _)
          rw [hta, ← runes_take (unhide HX)] at hJq
          clear hhi' hcn' hta
          gi_wp2
          exact ⟨⟨i + 1, by go_num, by omega, hmq, hJq, hsq⟩, by simp [RowKit.intOf]; omega⟩
    · obtain rfl : i = N := by omega
      have hta : rs.take i = rs := List.take_of_length_le (by rw [unhide HN]; exact Nat.le_refl _)
      rw [hta] at hJr
      gi_wp2
      go_end0
      exact ⟨⟨_, rfl⟩, .inl ⟨_, rfl, hJr⟩⟩
theorem runes_gives (rs : List RowD) (base Bs n : Nat) (bs : Nat → Prop) (hn : 2 ≤ n) (w : World) (h : RunesAt w base rs Bs) (hl : rs.length ≤ 1099511627776) (hfar : ∀ k, w.heap.size ≤ k → bs k) (hmid : ∀ k, base ≤ k → k < Bs → bs k) :
    Gives4 n Tryz.prog 82 #[.pointer (some ⟨Bs, 0, none⟩)] rrE 0 bs 0 0 (fun xs => xs = runesR rs) (fun pre => pre <+: runesR rs) w := by
  obtain ⟨a, c, h1, h2, h3, h4⟩ := h
  intro l J Jx W hW hJ hJx _ hY h0
  exact runes1_in rs a rs.length c bs n l Bs hn J Jx W hY hJ ((hW.block _ h2.lt).trans h2) rfl hl (h3.below hW) (fun k hk => hfar k (by have := hW.size; omega)) (fun g off e => hmid g (h4 g off e).1 (h4 g off e).2) h0
end Go.Proofs.YthjnkagepooeiaaGreatDoor
