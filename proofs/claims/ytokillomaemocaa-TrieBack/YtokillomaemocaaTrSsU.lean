/-
  Spans of a trie: the iterator.
-/
import Derived.Test.YtokillomaemocaaTrQt
import Derived.Test.YtokillomaemocaaTrMi
namespace Go.Proofs.Ytokillomaemocaa.VU
open Go.RowKit Go.PlainAid Go.Lib Go.PRow Go.Maps Go.TrM Go.SeqM
attribute [local go_sem] Oper.semAt_some
set_option linter.unusedVariables false
set_option linter.unusedSimpArgs false
def spE (p : Pc El) : Array Value := #[.agg #[.int .i32 p.lo, .int .i32 p.hi, enc p.val]]
/-- the blocks of a trie and of a box Bx -/
def spB (Bx bt : Nat) (vt vm vl : Value) (k : Nat) : Prop := k = Bx ∨ k = bt ∨ blk vt = some k ∨ blk vm = some k ∨ blk vl = some k
theorem rowE_cellsS {W : World} {B : Nat} {v : Value} {xs : List El} (h : RowE W B v xs) {g : Nat} (hg : blk v = some g) : ∃ cur, W.heap[g]? = some (.cells cur 5 (0, 0)) := by
  rcases h.2 with ⟨a, rfl, _⟩ | ⟨g', cap, cur, rfl, _, hh, _⟩
  · rw [blk_zero] at hg; cases hg
  · cases cap with
    | zero => rw [blk_zero] at hg; cases hg
    | succ c => cases hg; exact ⟨_, hh⟩
theorem rowW_cellsS {W : World} {B : Nat} {v : Value} {xs : List Int} (h : VW.RowE W B v xs) {g : Nat} (hg : blk v = some g) : ∃ cur, W.heap[g]? = some (.cells cur 34 (0, 0)) := by
  rcases h.2 with ⟨a, rfl, _⟩ | ⟨g', cap, cur, rfl, _, hh, _⟩
  · rw [blk_zero] at hg; cases hg
  · cases cap with
    | zero => rw [blk_zero] at hg; cases hg
    | succ c => cases hg; exact ⟨_, hh⟩
theorem TrAt.keptS {w w' : World} {B bt : Nat} {vt vm vl : Value} {vs : List El} (h : TrAt w B bt vt vm vl vs) (hk : ∀ k o, (k = bt ∨ blk vt = some k ∨ blk vm = some k ∨ blk vl = some k) → o.isCells = true → w.heap[k]? = some o → w'.heap[k]? = some o) : TrAt w' B bt vt vm vl vs := by
  refine ⟨hk bt _ (.inl rfl) rfl h.ht, h.rt.kept fun g hg => ?_, h.rm.kept fun g hg => ?_, h.rl.kept fun g hg => ?_, h.len⟩
  · obtain ⟨cur, hc⟩ := rowW_cellsS h.rt hg
    exact (hk g _ (.inr (.inl hg)) rfl hc).trans hc.symm
  · obtain ⟨cur, hc⟩ := rowW_cellsS h.rm hg
    exact (hk g _ (.inr (.inr (.inl hg))) rfl hc).trans hc.symm
  · obtain ⟨cur, hc⟩ := rowE_cellsS h.rl hg
    exact (hk g _ (.inr (.inr (.inr hg))) rfl hc).trans hc.symm
/-- a beginning of what Spans tells -/
def SpPre (vs : List El) (l : List (Pc El)) : Prop := ∃ k x, vs[(spS vs k).2]? = some x ∧ l = (spS vs k).1 ++ [⟨((spS vs k).2 : Int), (endV vs (spS vs k).2 : Int), x⟩]
set_option maxRecDepth 100000 in
set_option maxHeartbeats 4000000 in
theorem sp_in (B Bx bt n l : Nat) (vt vm vl : Value) (vs : List El) (hn : 4 ≤ n) (J Jx : List (Pc El) → World → Prop) (W : World)
    (hY : ∀ pre x W1, J pre W1 → SpPre vs (pre ++ [x]) → W.heap.size + 0 ≤ W1.heap.size → YieldAt Fence.wide (n - 1) Try.prog l (spE x) W1 fun e W' =>
      (e = .returned (.bool true) ∧ J (pre ++ [x]) W' ∧ Kp4 0 (spB Bx bt vt vm vl) W.heap.size W1 W') ∨ (e = .returned (.bool false) ∧ Jx (pre ++ [x]) W' ∧ KeepsFrom W.heap.size W1 W'))
    (hJ : OwnFrom W.heap.size J) (hT : TrAt W B bt vt vm vl vs) (h1 : W.heap[Bx]? = some (.cells #[.pointer (some ⟨bt, 0, none⟩)] 29 (0, 0))) (h0 : J [] W) :
    CallsIn Fence.wide n Try.prog 62 #[.func (.yield l) #[] #[], .pointer (some ⟨Bx, 0, none⟩)] W fun e W' => (∃ v, e = .returned v) ∧
      (J (spansV vs) W' ∨ (∃ pre, SpPre vs pre ∧ Jx pre W')) := by
  have HYY := hideA hY
  clear hY
  have hlen := hT.len
  have HAB := hideA (fun (V : World) (hV : TrAt V B bt vt vm vl vs) => absent_any V B bt vt vm vl vs hV)
  have HLA := hideA (fun (V : World) (hV : TrAt V B bt vt vm vl vs) (a : Nat) (ha : a < 1114112) => last_any V B bt vt vm vl vs hV a ha)
  have HAT := hideA (fun (V : World) (hV : TrAt V B bt vt vm vl vs) (a : Nat) (ha : a < 1114112) (x : El) (hx : vs[a]? = some x) => at_any V B bt vt vm vl vs hV (a : Int) x (by rw [atN_nat a ha]; exact hx))
  refine callsIn_of_wp Try.func62 rfl trivial ?_ rfl
  simp only [Try.ntmps62, List.size_toArray, List.length_cons, List.length_nil, Nat.reduceAdd, Nat.reduceSub, Array.replicate_succ, Array.replicate_zero, List.push_toArray, List.append_toArray, List.nil_append, List.cons_append]
  have hn1 : 1 ≤ n := by omega
  have hn2 : 1 ≤ n - 1 := by omega
  have hF : ∀ f, Fence.wide.fn f := fun _ => trivial
  have c0 : W.cell? ⟨Bx, 0, none⟩ = some (.pointer (some ⟨bt, 0, none⟩)) := by simp [World.cell?, h1]
  have HT := hideA (And.intro hT h1)
  have HLEN := hideA hlen
  clear hT h1 hlen
  gi_wp2_with fail
  refine CallsIn.mono (callsIn_wide.2 (unhideA HAB W (unhideA HT).1)) ?_
  rintro e w0 ⟨rfl, rfl⟩
  have H0 := hideA h0
  clear h0 c0
  gi_wp2_with fail
  gi_loopw [3] (fun v3 wr => ∃ k : Nat, v3 = .int .i32 ((spS vs k).2 : Int) ∧ (spS vs k).2 ≤ 1114112 ∧ w0.heap.size ≤ wr.heap.size ∧ Hid (TrAt wr B bt vt vm vl vs ∧ wr.heap[Bx]? = some (.cells #[.pointer (some ⟨bt, 0, none⟩)] 29 (0, 0)) ∧ J (spS vs k).1 wr))
    (fun v3 _ => 1114113 - (RowKit.intOf v3).toNat)
  case atStart => exact ⟨0, rfl, Nat.zero_le _, Nat.le_refl _, hideA ⟨(unhideA HT).1, (unhideA HT).2, unhideA H0⟩⟩
  case round =>
    obtain ⟨k, rfl, hk, hsz, HR⟩ := hrel
    have HSTEP := hideA (spS_step vs k)
    have HALL := hideA (spS_all vs k)
    have HPRE := hideA (fun x (hx : vs[(spS vs k).2]? = some x) => (show SpPre vs ((spS vs k).1 ++ [⟨((spS vs k).2 : Int), (endV vs (spS vs k).2 : Int), x⟩]) from ⟨k, x, hx, rfl⟩))
    generalize hst : spS vs k = st at *
    obtain ⟨ls, s⟩ := st
    have HST := hideA hst
    clear hst
    simp only at hk HR HSTEP HALL HPRE
    rcases Nat.lt_or_ge s 1114112 with hlt | hge
    · have d1 : decide ((s : Int) ≤ 1114111) = true := decide_eq_true (by omega)
      obtain ⟨x, hx⟩ : ∃ x, vs[s]? = some x := ⟨_, List.getElem?_eq_getElem (by rw [unhideA HLEN]; exact hlt)⟩
      have hend := endV_spec vs s (by rw [unhideA HLEN]; exact hlt)
      rw [unhideA HLEN] at hend
      obtain ⟨e1, e2, _, _⟩ := hend
      have HX := hideA hx
      have HB := hideA (fun (A V : World) (hA : w0.heap.size ≤ A.heap.size) (hb : Below A.heap.size A V) (h : TrAt A B bt vt vm vl vs ∧ A.heap[Bx]? = some (.cells #[.pointer (some ⟨bt, 0, none⟩)] 29 (0, 0)) ∧ J ls A) => (show TrAt V B bt vt vm vl vs ∧ V.heap[Bx]? = some (.cells #[.pointer (some ⟨bt, 0, none⟩)] 29 (0, 0)) ∧ J ls V from
        ⟨h.1.below hb, (hb.block _ (Array.getElem?_eq_some_iff.1 h.2.1).1).trans h.2.1, hJ ls A V none h.2.2 ⟨hb.os, hb.tape, hb.output, hb.size, fun k hk _ => hb.block k hk⟩ (fun r e => by cases e)⟩))
      have cbx : wr.cell? ⟨Bx, 0, none⟩ = some (.pointer (some ⟨bt, 0, none⟩)) := by
        have := (unhideA HR).2.1
        simp [World.cell?, this]
      clear hx
      gi_wp2_with fail
      refine CallsIn.mono (callsIn_wide.2 (unhideA HLA wr (unhideA HR).1 s hlt)) ?_
      rintro e w2 ⟨rfl, hb2⟩
      have HR2 := hideA (unhideA HB wr w2 hsz hb2 (unhideA HR))
      have hsz2 : w0.heap.size ≤ w2.heap.size := Nat.le_trans hsz hb2.size
      clear hb2 HR cbx
      have cbx : w2.cell? ⟨Bx, 0, none⟩ = some (.pointer (some ⟨bt, 0, none⟩)) := by
        have := (unhideA HR2).2.1
        simp [World.cell?, this]
      gi_wp2_with fail
      refine CallsIn.mono (callsIn_wide.2 (unhideA HAT w2 (unhideA HR2).1 s hlt x (unhideA HX))) ?_
      rintro e w3 ⟨rfl, hb3⟩
      have HR3 := hideA (unhideA HB w2 w3 hsz2 hb3 (unhideA HR2))
      have hsz3 : w0.heap.size ≤ w3.heap.size := Nat.le_trans hsz2 hb3.size
      clear hb3 HR2 cbx
      obtain ⟨fn, tmps, assign, body, hy, hR⟩ := unhideA HYY ls ⟨(s : Int), (endV vs s : Int), x⟩ w3 (unhideA HR3).2.2 (unhideA HPRE x (unhideA HX)) hsz3
      dsimp only [spE] at hy
      generalize hE : endV vs s = E at *
      have HE := hideA hE
      clear hE
      have q9 : IntKind.i32.wrap ((E : Int) + 1) = (E : Int) + 1 := by rw [IntKind.wrap_i32]; omega
      gi_wp2
      refine hR.mono ?_
      rintro e W5 (⟨rfl, hJ5, hk5⟩ | ⟨rfl, hJx5, hk5⟩)
      · have hT5 := (unhideA HR3).1.keptS (w' := W5) (fun g o hg hc ho => hk5.2.2 g o (.inr (.inr hg)) hc ho)
        have hb5 := hk5.2.2 Bx _ (.inr (.inl rfl)) rfl (unhideA HR3).2.1
        have hsz5 : w0.heap.size ≤ W5.heap.size := Nat.le_trans hsz3 hk5.1.size
        have HG := hideA (And.intro hT5 (And.intro hb5 hJ5))
        clear hT5 hb5 hJ5
        gi_wp2
        go_roundw
        case rel =>
          have hst := unhideA HSTEP x (unhideA HX)
          exact ⟨k + 1, by rw [hst]; simp, by rw [hst]; simp only; omega, hsz5, by rw [hst]; exact HG⟩
        case measure => simp [RowKit.intOf]; omega
      · have HXX := hideA hJx5
        clear hJx5
        gi_wp2
        refine bodyPost_ret (results_none rfl _ _ _) rfl ?_
        exact ⟨⟨_, rfl⟩, .inr ⟨_, unhideA HPRE x (unhideA HX), unhideA HXX⟩⟩
    · obtain rfl : s = 1114112 := by omega
      have d1 : decide ((1114112 : Int) ≤ 1114111) = false := decide_eq_false (by omega)
      have HJ2 := hideA (unhideA HR).2.2
      have hls : ls = spansV vs := unhideA HALL (unhideA HLEN).symm
      clear HR
      gi_wp2
      refine bodyPost_end (results_none rfl _ _ _) rfl ?_
      exact ⟨⟨_, rfl⟩, .inl (by rw [← hls]; exact unhideA HJ2)⟩
theorem sp_gives (B Bx bt n : Nat) (vt vm vl : Value) (vs : List El) (hn : 4 ≤ n) (w : World) (hT : TrAt w B bt vt vm vl vs) (h1 : w.heap[Bx]? = some (.cells #[.pointer (some ⟨bt, 0, none⟩)] 29 (0, 0))) :
    Gives4 n Try.prog 62 #[.pointer (some ⟨Bx, 0, none⟩)] spE 0 (spB Bx bt vt vm vl) 0 0 (fun xs => xs = spansV vs) (SpPre vs) w :=
  fun l J Jx W hW hJ hJx hcalm hY h0 => (sp_in B Bx bt n l vt vm vl vs hn J Jx W hY hJ (hT.below hW) ((hW.block Bx (Array.getElem?_eq_some_iff.1 h1).1).trans h1) h0).mono (by
    rintro e w' ⟨h, h2 | h2⟩
    · exact ⟨h, .inl ⟨_, rfl, h2⟩⟩
    · exact ⟨h, .inr h2⟩)
theorem spans_any (w : World) (bt : Nat) : Calls Try.prog 22 #[.pointer (some ⟨bt, 0, none⟩)] w fun e w' => e = .returned (.func (.func 62) #[] #[.pointer (some ⟨w.heap.size, 0, none⟩)]) ∧ w' = w.alloc (.cells #[.pointer (some ⟨bt, 0, none⟩)] 29) := by
  have hmf : ∀ (fn : Fn) (first cap : Array Value) (w : World), (Instr.makeFunc fn first cap).run Try.prog w = .ok (.func fn first cap) w := fun _ _ _ _ => rfl
  go_enter Try.func22, Try.ntmps22
  go_wp2
  go_ret
  exact ⟨rfl, rfl⟩
end Go.Proofs.Ytokillomaemocaa.VU
