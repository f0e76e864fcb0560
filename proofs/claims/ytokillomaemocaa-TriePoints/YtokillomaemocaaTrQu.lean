/-
  These texts, one behind the other: TrSsU, TrWhU.
-/
import Derived.Test.YtokillomaemocaaTrQt
import Derived.Test.YtokillomaemocaaTrMi
/-
  Spans of a trie: the iterator.
-/
namespace Go.Proofs.Ytokillomaemocaa.VU
open Go.RowKit Go.PlainAid Go.Lib Go.PRow Go.Maps Go.TrM Go.SeqM
attribute [local go_sem] Oper.semAt_some
set_option linter.unusedVariables false
set_option linter.unusedSimpArgs false
def spE (p : Pc El) : Array Value := #[.agg #[.int .i32 p.lo, .int .i32 p.hi, enc p.val]]
/-- the blocks of a trie and of a box Bx -/
def spB (Bx bt : Nat) (vt vm vl : Value) (k : Nat) : Prop := k = Bx ∨ k = bt ∨ blk vt = some k ∨ blk vm = some k ∨ blk vl = some k
theorem rowE_cellsS {W : World} {B : Nat} {v : Value} {xs : List El} (h : RowE W B v xs) {g : Nat} (hg : blk v = some g) : ∃ cur, W.heap[g]? = some (.cells cur 5 (0, 0)) := by
  rcases h.2 with ⟨a, rfl, _⟩ | ⟨g', cap, cur, rfl, _, hh, _⟩
  · rw [blk_zero] at hg; cases hg
  · cases cap with
    | zero => rw [blk_zero] at hg; cases hg
    | succ c => cases hg; exact ⟨_, hh⟩
theorem rowW_cellsS {W : World} {B : Nat} {v : Value} {xs : List Int} (h : VW.RowE W B v xs) {g : Nat} (hg : blk v = some g) : ∃ cur, W.heap[g]? = some (.cells cur 34 (0, 0)) := by
  rcases h.2 with ⟨a, rfl, _⟩ | ⟨g', cap, cur, rfl, _, hh, _⟩
  · rw [blk_zero] at hg; cases hg
  · cases cap with
    | zero => rw [blk_zero] at hg; cases hg
    | succ c => cases hg; exact ⟨_, hh⟩
theorem TrAt.keptS {w w' : World} {B bt : Nat} {vt vm vl : Value} {vs : List El} (h : TrAt w B bt vt vm vl vs) (hk : ∀ k o, (k = bt ∨ blk vt = some k ∨ blk vm = some k ∨ blk vl = some k) → o.isCells = true → w.heap[k]? = some o → w'.heap[k]? = some o) : TrAt w' B bt vt vm vl vs := by
  refine ⟨hk bt _ (.inl rfl) rfl h.ht, h.rt.kept fun g hg => ?_, h.rm.kept fun g hg => ?_, h.rl.kept fun g hg => ?_, h.len⟩
  · obtain ⟨cur, hc⟩ := rowW_cellsS h.rt hg
    exact (hk g _ (.inr (.inl hg)) rfl hc).trans hc.symm
  · obtain ⟨cur, hc⟩ := rowW_cellsS h.rm hg
    exact (hk g _ (.inr (.inr (.inl hg))) rfl hc).trans hc.symm
  · obtain ⟨cur, hc⟩ := rowE_cellsS h.rl hg
    exact (hk g _ (.inr (.inr (.inr hg))) rfl hc).trans hc.symm
/-- a beginning of what Spans tells -/
def SpPre (vs : List El) (l : List (Pc El)) : Prop := ∃ k x, vs[(spS vs k).2]? = some x ∧ l = (spS vs k).1 ++ [⟨((spS vs k).2 : Int), (endV vs (spS vs k).2 : Int), x⟩]
set_option maxRecDepth 100000 in
set_option maxHeartbeats 4000000 in
theorem sp_in (B Bx bt n l : Nat) (vt vm vl : Value) (vs : List El) (hn : 4 ≤ n) (J Jx : List (Pc El) → World → Prop) (W : World)
    (hY : ∀ pre x W1, J pre W1 → SpPre vs (pre ++ [x]) → W.heap.size + 0 ≤ W1.heap.size → YieldAt Fence.wide (n - 1) Try.prog l (spE x) W1 fun e W' =>
      (e = .returned (.bool true) ∧ J (pre ++ [x]) W' ∧ Kp4 0 (spB Bx bt vt vm vl) W.heap.size W1 W') ∨ (e = .returned (.bool false) ∧ Jx (pre ++ [x]) W' ∧ KeepsFrom W.heap.size W1 W'))
    (hJ : OwnFrom W.heap.size J) (hT : TrAt W B bt vt vm vl vs) (h1 : W.heap[Bx]? = some (.cells #[.pointer (some ⟨bt, 0, none⟩)] 29 (0, 0))) (h0 : J [] W) :
    CallsIn Fence.wide n Try.prog 62 #[.func (.yield l) #[] #[], .pointer (some ⟨Bx, 0, none⟩)] W fun e W' => (∃ v, e = .returned v) ∧
      (J (spansV vs) W' ∨ (∃ pre, SpPre vs pre ∧ Jx pre W')) := by
  have HYY := hideA hY
  clear hY
  have hlen := hT.len
  have HAB := hideA (fun (V : World) (hV : TrAt V B bt vt vm vl vs) => absent_any V B bt vt vm vl vs hV)
  have HLA := hideA (fun (V : World) (hV : TrAt V B bt vt vm vl vs) (a : Nat) (ha : a < 1114112) => last_any V B bt vt vm vl vs hV a ha)
  have HAT := hideA (fun (V : World) (hV : TrAt V B bt vt vm vl vs) (a : Nat) (ha : a < 1114112) (x : El) (hx : vs[a]? = some x) => at_any V B bt vt vm vl vs hV (a : Int) x (by rw [atN_nat a ha]; exact hx))
  refine callsIn_of_wp Try.func62 rfl trivial ?_ rfl
  simp only [Try.ntmps62, List.size_toArray, List.length_cons, List.length_nil, Nat.reduceAdd, Nat.reduceSub, Array.replicate_succ, Array.replicate_zero, List.push_toArray, List.append_toArray, List.nil_append, List.cons_append]
  have hn1 : 1 ≤ n := by omega
  have hn2 : 1 ≤ n - 1 := by omega
  have hF : ∀ f, Fence.wide.fn f := fun _ => trivial
  have c0 : W.cell? ⟨Bx, 0, none⟩ = some (.pointer (some ⟨bt, 0, none⟩)) := by simp [World.cell?, h1]
  have HT := hideA (And.intro hT h1)
  have HLEN := hideA hlen
  clear hT h1 hlen
  gi_wp2_with fail
  refine CallsIn.mono (callsIn_wide.2 (unhideA HAB W (unhideA HT).1)) ?_
  rintro e w0 ⟨rfl, rfl⟩
  have H0 := hideA h0
  clear h0 c0
  gi_wp2_with fail
  gi_loopw [3] (fun v3 wr => ∃ k : Nat, v3 = .int .i32 ((spS vs k).2 : Int) ∧ (spS vs k).2 ≤ 1114112 ∧ w0.heap.size ≤ wr.heap.size ∧ Hid (TrAt wr B bt vt vm vl vs ∧ wr.heap[Bx]? = some (.cells #[.pointer (some ⟨bt, 0, none⟩)] 29 (0, 0)) ∧ J (spS vs k).1 wr))
    (fun v3 _ => 1114113 - (RowKit.intOf v3).toNat)
  case atStart => exact ⟨0, rfl, Nat.zero_le _, Nat.le_refl _, hideA ⟨(unhideA HT).1, (unhideA HT).2, unhideA H0⟩⟩
  case round =>
    obtain ⟨k, rfl, hk, hsz, HR⟩ := hrel
    have HSTEP := hideA (spS_step vs k)
    have HALL := hideA (spS_all vs k)
    have HPRE := hideA (fun x (hx : vs[(spS vs k).2]? = some x) => (show SpPre vs ((spS vs k).1 ++ [⟨((spS vs k).2 : Int), (endV vs (spS vs k).2 : Int), x⟩]) from ⟨k, x, hx, rfl⟩))
    generalize hst : spS vs k = st at *
    obtain ⟨ls, s⟩ := st
    have HST := hideA hst
    clear hst
    simp only at hk HR HSTEP HALL HPRE
    rcases Nat.lt_or_ge s 1114112 with hlt | hge
    · have d1 : decide ((s : Int) ≤ 1114111) = true := decide_eq_true (by omega)
      obtain ⟨x, hx⟩ : ∃ x, vs[s]? = some x := ⟨_, List.getElem?_eq_getElem (by rw [unhideA HLEN]; exact hlt)⟩
      have hend := endV_spec vs s (by rw [unhideA HLEN]; exact hlt)
      rw [unhideA HLEN] at hend
      obtain ⟨e1, e2, _, _⟩ := hend
      have HX := hideA hx
      have HB := hideA (fun (A V : World) (hA : w0.heap.size ≤ A.heap.size) (hb : Below A.heap.size A V) (h : TrAt A B bt vt vm vl vs ∧ A.heap[Bx]? = some (.cells #[.pointer (some ⟨bt, 0, none⟩)] 29 (0, 0)) ∧ J ls A) => (show TrAt V B bt vt vm vl vs ∧ V.heap[Bx]? = some (.cells #[.pointer (some ⟨bt, 0, none⟩)] 29 (0, 0)) ∧ J ls V from
        ⟨h.1.below hb, (hb.block _ (Array.getElem?_eq_some_iff.1 h.2.1).1).trans h.2.1, hJ ls A V none h.2.2 ⟨hb.os, hb.tape, hb.output, hb.size, fun k hk _ => hb.block k hk⟩ (fun r e => by cases e)⟩))
      have cbx : wr.cell? ⟨Bx, 0, none⟩ = some (.pointer (some ⟨bt, 0, none⟩)) := by
        have := (unhideA HR).2.1
        simp [World.cell?, this]
      clear hx
      gi_wp2_with fail
      refine CallsIn.mono (callsIn_wide.2 (unhideA HLA wr (unhideA HR).1 s hlt)) ?_
      rintro e w2 ⟨rfl, hb2⟩
      have HR2 := hideA (unhideA HB wr w2 hsz hb2 (unhideA HR))
      have hsz2 : w0.heap.size ≤ w2.heap.size := Nat.le_trans hsz hb2.size
      clear hb2 HR cbx
      have cbx : w2.cell? ⟨Bx, 0, none⟩ = some (.pointer (some ⟨bt, 0, none⟩)) := by
        have := (unhideA HR2).2.1
        simp [World.cell?, this]
      gi_wp2_with fail
      refine CallsIn.mono (callsIn_wide.2 (unhideA HAT w2 (unhideA HR2).1 s hlt x (unhideA HX))) ?_
      rintro e w3 ⟨rfl, hb3⟩
      have HR3 := hideA (unhideA HB w2 w3 hsz2 hb3 (unhideA HR2))
      have hsz3 : w0.heap.size ≤ w3.heap.size := Nat.le_trans hsz2 hb3.size
      clear hb3 HR2 cbx
      obtain ⟨fn, tmps, assign, body, hy, hR⟩ := unhideA HYY ls ⟨(s : Int), (endV vs s : Int), x⟩ w3 (unhideA HR3).2.2 (unhideA HPRE x (unhideA HX)) hsz3
      dsimp only [spE] at hy
      generalize hE : endV vs s = E at *
      have HE := hideA hE
      clear hE
      have q9 : IntKind.i32.wrap ((E : Int) + 1) = (E : Int) + 1 := by rw [IntKind.wrap_i32]; omega
      gi_wp2
      refine hR.mono ?_
      rintro e W5 (⟨rfl, hJ5, hk5⟩ | ⟨rfl, hJx5, hk5⟩)
      · have hT5 := (unhideA HR3).1.keptS (w' := W5) (fun g o hg hc ho => hk5.2.2 g o (.inr (.inr hg)) hc ho)
        have hb5 := hk5.2.2 Bx _ (.inr (.inl rfl)) rfl (unhideA HR3).2.1
        have hsz5 : w0.heap.size ≤ W5.heap.size := Nat.le_trans hsz3 hk5.1.size
        have HG := hideA (And.intro hT5 (And.intro hb5 hJ5))
        clear hT5 hb5 hJ5
        gi_wp2
        go_roundw
        case rel =>
          have hst := unhideA HSTEP x (unhideA HX)
          exact ⟨k + 1, by rw [hst]; simp, by rw [hst]; simp only; omega, hsz5, by rw [hst]; exact HG⟩
        case measure => simp [RowKit.intOf]; omega
      · have HXX := hideA hJx5
        clear hJx5
        gi_wp2
        refine bodyPost_ret (results_none rfl _ _ _) rfl ?_
        exact ⟨⟨_, rfl⟩, .inr ⟨_, unhideA HPRE x (unhideA HX), unhideA HXX⟩⟩
    · obtain rfl : s = 1114112 := by omega
      have d1 : decide ((1114112 : Int) ≤ 1114111) = false := decide_eq_false (by omega)
      have HJ2 := hideA (unhideA HR).2.2
      have hls : ls = spansV vs := unhideA HALL (unhideA HLEN).symm
      clear HR
      gi_wp2
      refine bodyPost_end (results_none rfl _ _ _) rfl ?_
      exact ⟨⟨_, rfl⟩, .inl (by rw [← hls]; exact unhideA HJ2)⟩
theorem sp_gives (B Bx bt n : Nat) (vt vm vl : Value) (vs : List El) (hn : 4 ≤ n) (w : World) (hT : TrAt w B bt vt vm vl vs) (h1 : w.heap[Bx]? = some (.cells #[.pointer (some ⟨bt, 0, none⟩)] 29 (0, 0))) :
    Gives4 n Try.prog 62 #[.pointer (some ⟨Bx, 0, none⟩)] spE 0 (spB Bx bt vt vm vl) 0 0 (fun xs => xs = spansV vs) (SpPre vs) w :=
  fun l J Jx W hW hJ hJx hcalm hY h0 => (sp_in B Bx bt n l vt vm vl vs hn J Jx W hY hJ (hT.below hW) ((hW.block Bx (Array.getElem?_eq_some_iff.1 h1).1).trans h1) h0).mono (by
    rintro e w' ⟨h, h2 | h2⟩
    · exact ⟨h, .inl ⟨_, rfl, h2⟩⟩
    · exact ⟨h, .inr h2⟩)
theorem spans_any (w : World) (bt : Nat) : Calls Try.prog 22 #[.pointer (some ⟨bt, 0, none⟩)] w fun e w' => e = .returned (.func (.func 62) #[] #[.pointer (some ⟨w.heap.size, 0, none⟩)]) ∧ w' = w.alloc (.cells #[.pointer (some ⟨bt, 0, none⟩)] 29) := by
  have hmf : ∀ (fn : Fn) (first cap : Array Value) (w : World), (Instr.makeFunc fn first cap).run Try.prog w = .ok (.func fn first cap) w := fun _ _ _ _ => rfl
  go_enter Try.func22, Try.ntmps22
  go_wp2
  go_ret
  exact ⟨rfl, rfl⟩
end Go.Proofs.Ytokillomaemocaa.VU
/-
  Where of a trie: the iterator.
-/
namespace Go.Proofs.Ytokillomaemocaa.VU
open Go.RowKit Go.PlainAid Go.Lib Go.PRow Go.Maps Go.TrM Go.SeqM
attribute [local go_sem] Oper.semAt_some
set_option linter.unusedVariables false
set_option linter.unusedSimpArgs false
/-- the blocks that a round must leave: all from b0 on, the value's box, the trie's box and blocks -/
def whB (b0 Bt Bv bt : Nat) (vt vm vl : Value) (k : Nat) : Prop := b0 ≤ k ∨ k = Bv ∨ spB Bt bt vt vm vl k
def whE (r : Nat) : Array Value := #[.int .i32 (r : Int)]
/-- a beginning of what Where tells -/
def WhPre (vs : List El) (v : El) (l : List Nat) : Prop := ∃ r, vs[r]? = some v ∧ l = whereV vs v r ++ [r]
theorem snoc_inj {α : Type} {a b : List α} {x y : α} (h : a ++ [x] = b ++ [y]) : a = b ∧ x = y := by
  have h1 := List.append_inj_left' h rfl
  have h2 := List.append_inj_right' h rfl
  exact ⟨h1, (List.cons.inj h2).1⟩
set_option maxRecDepth 100000 in
set_option maxHeartbeats 4000000 in
theorem wh_in (b0 B Bt Bv bt n l : Nat) (vt vm vl : Value) (vs : List El) (v : El) (hn : 9 ≤ n) (J Jx : List Nat → World → Prop) (W : World) (hb0 : b0 ≤ W.heap.size)
    (hY : ∀ pre x W1, J pre W1 → WhPre vs v (pre ++ [x]) → W.heap.size + 0 ≤ W1.heap.size → YieldAt Fence.wide (n - 1) Try.prog l (whE x) W1 fun e W' =>
      (e = .returned (.bool true) ∧ J (pre ++ [x]) W' ∧ Kp4 0 (whB b0 Bt Bv bt vt vm vl) W.heap.size W1 W') ∨ (e = .returned (.bool false) ∧ Jx (pre ++ [x]) W' ∧ KeepsFrom W.heap.size W1 W'))
    (hJ : OwnFrom W.heap.size J) (hJx : OwnFrom W.heap.size Jx) (hT : TrAt W B bt vt vm vl vs) (h1 : W.heap[Bt]? = some (.cells #[.pointer (some ⟨bt, 0, none⟩)] 29 (0, 0))) (h2 : W.heap[Bv]? = some (.cells #[enc v] 5 (0, 0))) (h0 : J [] W) :
    CallsIn Fence.wide n Try.prog 64 #[.func (.yield l) #[] #[], .pointer (some ⟨Bt, 0, none⟩), .pointer (some ⟨Bv, 0, none⟩)] W fun e W' => (∃ v, e = .returned v) ∧
      (J (whereV vs v 1114112) W' ∨ (∃ pre, WhPre vs v pre ∧ Jx pre W')) := by
  have HYY := hideA hY
  clear hY
  have hlen := hT.len
  obtain ⟨W1, hW1⟩ : ∃ W1, W1 = W.alloc (.cells #[.func (.yield l) #[] #[]] 119) := ⟨_, rfl⟩
  have hB1 : Below W.heap.size W W1 := by rw [hW1]; exact (Below.refl _ W).alloc (Nat.le_refl _) _
  have hs1 : W1.heap.size = W.heap.size + 1 := by rw [hW1]; simp
  have y1 : W1.heap[W.heap.size]? = some (.cells #[.func (.yield l) #[] #[]] 119 (0, 0)) := by rw [hW1]; exact World.alloc_heap_new W _
  have hBt1 := (hB1.block Bt (Array.getElem?_eq_some_iff.1 h1).1).trans h1
  have c1 : W1.cell? ⟨Bt, 0, none⟩ = some (.pointer (some ⟨bt, 0, none⟩)) := by simp [World.cell?, hBt1]
  refine callsIn_of_wp_marks Try.func64 rfl trivial ?_ rfl
  simp only [Try.ntmps64, List.size_toArray, List.length_cons, List.length_nil, Nat.reduceAdd, Nat.reduceSub, Array.replicate_succ, Array.replicate_zero, List.push_toArray, List.append_toArray, List.nil_append, List.cons_append]
  have hF : ∀ f, Fence.wide.fn f := fun _ => trivial
  have hn1 : 1 ≤ n := by omega
  have c1' := c1
  rw [hW1] at c1'
  gi_wp2_with fail
  rw [← hW1]
  clear c1'
  refine CallsIn.mono (callsIn_wide.2 (spans_any W1 bt)) ?_
  rintro e w' ⟨rfl, hw'⟩
  have HW := hideA hw'
  clear hw' c1
  gi_wp2_with fail
  obtain ⟨W2, hW2⟩ : ∃ W2, W2 = w' := ⟨_, rfl⟩
  rw [← hW2] at HW ⊢
  clear hW2
  have hb12 : Below W1.heap.size W1 W2 := by rw [unhideA HW]; exact (Below.refl _ W1).alloc (Nat.le_refl _) _
  have hsz : W2.heap.size = W.heap.size + 2 := by rw [unhideA HW]; simp; omega
  have hsp : W2.heap[W1.heap.size]? = some (.cells #[.pointer (some ⟨bt, 0, none⟩)] 29 (0, 0)) := by rw [unhideA HW]; exact World.alloc_heap_new W1 _
  have hbW2 : Below W.heap.size W W2 := hB1.trans (hb12.mono hB1.size)
  have hT2 := hT.below hbW2
  have y2 := (hb12.block _ (by omega)).trans y1
  have hv2 := (hbW2.block _ (Array.getElem?_eq_some_iff.1 h2).1).trans h2
  have hJ2 : J [] W2 := hJ [] W W2 none h0 ⟨hbW2.os, hbW2.tape, hbW2.output, hbW2.size, fun k hk _ => hbW2.block k hk⟩ (fun r e => by cases e)
  rw [hs1] at hsp
  have hszA : W.heap.size + 2 ≤ W2.heap.size := by omega
  have hszB : W2.heap.size ≤ W.heap.size + 2 := by omega
  clear hsz
  clear HW hW1 hBt1 hb12 hs1
  refine range4B (by omega) (gf := 62) (lb := #[.pointer (some ⟨W.heap.size + 1, 0, none⟩)]) rfl (enters_of Try.func62 (by kernel_rfl) rfl)
    (sp_gives B (W.heap.size + 1) bt _ vt vm vl vs (by omega) W2 hT2 hsp) (Below.refl _ _) (fun _ => rfl)
    (fun pre V => (∃ k, pre = (spS vs k).1 ∧ J (whereV vs v (spS vs k).2) V) ∧ V.heap[W.heap.size]? = some (.cells #[.func (.yield l) #[] #[]] 119 (0, 0)) ∧ V.heap[Bv]? = some (.cells #[enc v] 5 (0, 0)) ∧ W2.heap.size ≤ V.heap.size)
    (fun c pre V => c = .ret ∧ ∃ q, WhPre vs v q ∧ Jx q V)
    (OwnFrom.and (fun st A B row hx hg hr => by
      obtain ⟨k, e, hx⟩ := hx
      exact ⟨k, e, OwnFrom.le hJ (by omega) _ A B row hx hg hr⟩) ((own_block _ _ _ rfl).and ((own_block _ _ _ rfl).and (own_size _ _))))
    (fun c st A B row hx hg hr => ⟨hx.1, by
      obtain ⟨q, hq, hx⟩ := hx.2
      exact ⟨q, hq, OwnFrom.le hJx (by omega) q A B row hx hg hr⟩⟩) (CalmR.none _ _ _)
    ⟨⟨0, rfl, hJ2⟩, y2, hv2, Nat.le_refl _⟩
    (fun x => .cells #[.int .i32 x.lo, .int .i32 x.hi, enc x.val] 72 (0, 0)) (fun _ => rfl) ?fr ?assign ?body ?done ?stop
  case assign =>
    intro l2 x V K hK
    simp only [spE]
    gi_wp2
    generalize hBx : V.heap.size = Bx
    exact hK Bx hBx.symm
  case body =>
    rintro l2 pre x Bx V hl2 hsz2 ⟨r, hr⟩ ⟨⟨k, rfl, hj⟩, hy, hv, hs⟩ hx1 hx2 ⟨k2, xv, hxv, hpre⟩
    obtain ⟨e1, e2⟩ := snoc_inj hpre
    have ea : (spS vs k2).2 = (spS vs k).2 := by rw [spS_end, spS_end, e1]
    rw [ea] at hxv e2
    have hst := spS_step vs k xv hxv
    have hal := (List.getElem?_eq_some_iff.1 hxv).1
    obtain ⟨g1, g2, g3, _⟩ := endV_spec vs _ hal
    subst e2
    generalize hE : endV vs (spS vs k).2 = E at *
    generalize ha : (spS vs k).2 = a at *
    have HST := hideA (And.intro hst (And.intro hE ha))
    rw [hlen] at hal g2
    have HG := hideA (And.intro g3 hxv)
    have HYB := hideA hy
    have cx0 : V.cell? ⟨Bx, 0, none⟩ = some (.int .i32 (a : Int)) := by simp [World.cell?, hx1]
    have HI := hideA (And.intro hj (And.intro hy (And.intro hv (And.intro hx1 hs))))
    have HP := hideA hpre
    clear hst hE ha g3 hxv hj hy hv hx1 e1 ea hpre hsp y2 hv2 hJ2 hT2 h1 h2 y1
    gi_wp2_with fail
    gi_loopw [5] (fun v5 wr => ∃ r : Nat, v5 = .int .i32 (r : Int) ∧ a ≤ r ∧ r ≤ E + 1 ∧ Hid ((xv ≠ v → r = a) ∧ J (whereV vs v r) wr ∧ wr.heap[W.heap.size]? = some (.cells #[.func (.yield l) #[] #[]] 119 (0, 0)) ∧ wr.heap[Bv]? = some (.cells #[enc v] 5 (0, 0)) ∧ wr.heap[Bx]? = some (.cells #[.int .i32 (a : Int), .int .i32 (E : Int), enc xv] 72 (0, 0)) ∧ W2.heap.size ≤ wr.heap.size ∧ KeepsFrom W2.heap.size V wr ∧ KpR 0 (spB (W.heap.size + 1) bt vt vm vl) (W2.heap.size + 2) V wr))
      (fun v5 _ => E + 2 - (RowKit.intOf v5).toNat)
    case atStart =>
      obtain ⟨i1, i2, i3, i4, i5⟩ := unhideA HI
      exact ⟨a, rfl, Nat.le_refl _, by omega, hideA ⟨fun _ => rfl, i1, i2, i3, i4, i5, KeepsFrom.refl _ _, KpR.refl _⟩⟩
    case round =>
      obtain ⟨r, rfl, hr1, hr2, HR⟩ := hrel
      obtain ⟨i0, i1, i2, i3, i4, i5, i6, i7⟩ := unhideA HR
      have b0' : wr.cell? ⟨Bx, 2, none⟩ = some (enc xv) := by simp [World.cell?, i4]
      have b1' : wr.cell? ⟨Bx, 1, none⟩ = some (.int .i32 (E : Int)) := by simp [World.cell?, i4]
      have b2' : wr.cell? ⟨Bv, 0, none⟩ = some (enc v) := by simp [World.cell?, i3]
      have b3' : wr.cell? ⟨W.heap.size, 0, none⟩ = some (.func (.yield l) #[] #[]) := by simp [World.cell?, i2]
      by_cases hxv : xv = v
      · subst hxv
        clear i0
        rcases Nat.lt_or_ge E r with hlt | hge
        · have d1 : decide ((r : Int) ≤ (E : Int)) = false := decide_eq_false (by omega)
          have d2 : ¬ (r : Int) ≤ (E : Int) := by omega
          obtain rfl : r = E + 1 := by omega
          clear i1 i2 i3 i4 i5 i6 i7
          gi_wp2
          obtain ⟨i0, i1, i2, i3, i4, i5, i6, i7⟩ := unhideA HR
          refine ⟨i6, i7, ⟨k + 1, ?_, ?_⟩, i2, i3, i5⟩
          · rw [(unhideA HST).1]
          · rw [(unhideA HST).1]; exact i1
        · have d1 : decide ((r : Int) ≤ (E : Int)) = true := decide_eq_true (by omega)
          have d2 : (r : Int) ≤ (E : Int) := by omega
          have hvr : vs[r]? = some xv := ((unhideA HG).1 r hr1 hge).trans (unhideA HG).2
          have hn2 : 1 ≤ n - 1 - 1 := by omega
          have q1 : IntKind.i32.wrap ((r : Int) + 1) = (r : Int) + 1 := by rw [IntKind.wrap_i32]; omega
          obtain ⟨fn, tmps, assign, body, hy, hR⟩ := yieldIn (m := n - 1 - 1 - 1) (lr := l2) (unhideA HYY (whereV vs xv r) r wr i1 ⟨r, hvr, rfl⟩ (by omega))
          dsimp only [whE] at hy
          have HVR := hideA hvr
          clear i1 i2 i3 i4 i5 i6 i7 hvr
          gi_wp2_with fail
          refine hR.mono ?_
          rintro e V5 (⟨rfl, hJ5, hk5⟩ | ⟨rfl, hJx5, hk5⟩)
          · have HJ5 := hideA (And.intro hJ5 hk5)
            clear hJ5 hk5
            gi_wp2_with fail
            go_roundw
            case rel =>
              obtain ⟨hJ5, hk5⟩ := unhideA HJ5
              obtain ⟨i0, i1, i2, i3, i4, i5, i6, i7⟩ := unhideA HR
              have hkeep : ∀ q (ob : Obj), whB b0 Bt Bv bt vt vm vl q → ob.isCells = true → wr.heap[q]? = some ob → V5.heap[q]? = some ob := fun q ob hq hc ho => hk5.2.2 q ob (.inr hq) hc ho
              have hsz5 := hk5.1.size
              refine ⟨r + 1, by simp, by omega, by omega, hideA ⟨fun h => absurd rfl h, ?_, hkeep _ _ (.inl (by omega)) rfl i2, hkeep _ _ (.inr (.inl rfl)) rfl i3, hkeep _ _ (.inl (by omega)) rfl i4, by omega, i6.trans ⟨hk5.1.size, fun q ob hB => hk5.1.same q ob (by omega)⟩, i7.trans ⟨⟨hk5.1.size⟩, fun q ob hq hc ho => ?_⟩⟩⟩
              · rw [whereV_succ, if_pos (unhideA HVR)]
                exact hJ5
              · rcases hq with hq | hq | hq
                · omega
                · exact hkeep q ob (.inl (by omega)) hc ho
                · exact hkeep q ob (.inr (.inr (.inr hq))) hc ho
            case measure => simp [RowKit.intOf]; omega
          · have HJ5 := hideA (And.intro hJx5 hk5)
            clear hJx5 hk5
            gi_wp2
            obtain ⟨hJx5, hk5⟩ := unhideA HJ5
            obtain ⟨i0, i1, i2, i3, i4, i5, i6, i7⟩ := unhideA HR
            exact ⟨i6.trans ⟨hk5.size, fun q ob hB => hk5.same q ob (by omega)⟩, rfl, _, ⟨r, unhideA HVR, rfl⟩, hJx5⟩
      · obtain rfl := i0 hxv
        have n1 : (xv == v) = false := by simpa using hxv
        have n2 : ¬ enc xv = enc v := fun e => hxv (enc_inj e)
        clear i0 i1 i2 i3 i4 i5 i6 i7
        gi_wp2
        obtain ⟨i0, i1, i2, i3, i4, i5, i6, i7⟩ := unhideA HR
        refine ⟨i6, i7, ⟨k + 1, ?_, ?_⟩, i2, i3, i5⟩
        · rw [(unhideA HST).1]
        · rw [(unhideA HST).1]
          simp only
          rw [whereV_skip vs v r (E + 1) (by omega) (fun q q1 q2 e => ?_)]
          · exact i1
          · rw [(unhideA HG).1 q q1 (by omega), (unhideA HG).2] at e
            injection e with e
            exact hxv e
  case done =>
    rintro D xs V hD hS ⟨⟨k, rfl, hj⟩, hy, hv, hs⟩ hK
    have hfull := spS_full vs k hS
    rw [hlen] at hfull
    rw [hfull] at hj
    have HJ := hideA hj
    clear hj
    gi_wp2
    refine ⟨by simp, .inl ⟨_, _, rfl, run_takeDeferred hK, ?_⟩⟩
    refine ⟨_, results_none rfl _ _ _, ⟨_, rfl⟩, .inl ?_⟩
    exact (OwnFrom.le hJ (show W.heap.size ≤ D by omega)).putObj (s := whereV vs v 1114112) _ (unhideA HJ) (Nat.le_refl _) hK rfl
  case stop =>
    rintro D c pre V hD hSp ⟨rfl, q, hq, hx⟩ hK
    gi_wp2
    refine ⟨by simp, .inl ⟨_, _, rfl, run_takeDeferred hK, ?_⟩⟩
    refine ⟨_, results_none rfl _ _ _, ⟨_, rfl⟩, .inr ⟨q, hq, ?_⟩⟩
    exact (OwnFrom.le hJx (show W.heap.size ≤ D by omega)).putObj (s := q) _ hx (Nat.le_refl _) hK rfl
theorem where_gives (B Bt Bv bt n : Nat) (vt vm vl : Value) (vs : List El) (v : El) (hn : 9 ≤ n) (w : World) (hT : TrAt w B bt vt vm vl vs) (h1 : w.heap[Bt]? = some (.cells #[.pointer (some ⟨bt, 0, none⟩)] 29 (0, 0))) (h2 : w.heap[Bv]? = some (.cells #[enc v] 5 (0, 0))) :
    Gives4 n Try.prog 64 #[.pointer (some ⟨Bt, 0, none⟩), .pointer (some ⟨Bv, 0, none⟩)] whE 0 (whB w.heap.size Bt Bv bt vt vm vl) 0 0 (fun xs => xs = whereV vs v 1114112) (WhPre vs v) w :=
  fun l J Jx W hW hJ hJx hcalm hY h0 => (wh_in w.heap.size B Bt Bv bt n l vt vm vl vs v hn J Jx W hW.size hY hJ hJx (hT.below hW) ((hW.block Bt (Array.getElem?_eq_some_iff.1 h1).1).trans h1) ((hW.block Bv (Array.getElem?_eq_some_iff.1 h2).1).trans h2) h0).mono (by
    rintro e w' ⟨h, h2 | h2⟩
    · exact ⟨h, .inl ⟨_, rfl, h2⟩⟩
    · exact ⟨h, .inr h2⟩)
theorem where_any (w : World) (bt : Nat) (v : El) : Calls Try.prog 23 #[.pointer (some ⟨bt, 0, none⟩), enc v] w fun e w' => e = .returned (.func (.func 64) #[] #[.pointer (some ⟨w.heap.size, 0, none⟩), .pointer (some ⟨w.heap.size + 1, 0, none⟩)]) ∧ w' = (w.alloc (.cells #[.pointer (some ⟨bt, 0, none⟩)] 29)).alloc (.cells #[enc v] 5) := by
  have hmf : ∀ (fn : Fn) (first cap : Array Value) (w : World), (Instr.makeFunc fn first cap).run Try.prog w = .ok (.func fn first cap) w := fun _ _ _ _ => rfl
  go_enter Try.func23, Try.ntmps23
  go_wp2
  go_ret
  exact ⟨rfl, rfl⟩
end Go.Proofs.Ytokillomaemocaa.VU
