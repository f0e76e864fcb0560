/-
  These texts, one behind the other: TrRs, TrTnM.
-/
import Derived.Test.YtokillomaemocaaTrMi
import Derived.Test.YtokillomaemocaaTrAtU
/-
  repeats: the numbers of the low blocks by rising places, each with how many places in a row have it.
-/
namespace Go.Proofs.Ytokillomaemocaa.VU
open Go.RowKit Go.PlainAid Go.Lib Go.PRow Go.Maps Go.TrM Go.SeqM
attribute [local go_sem] Oper.semAt_some
set_option linter.unusedVariables false
set_option linter.unusedSimpArgs false
/-- one place further: what was told so far, and where the run began -/
def runT (f : Nat → Nat) (st : List (Nat × Nat) × Nat) (k : Nat) : List (Nat × Nat) × Nat := if k < 17408 ∧ f k = f st.2 then st else (st.1 ++ [(f st.2, k - st.2)], k)
def runS (f : Nat → Nat) (k : Nat) : List (Nat × Nat) × Nat := (List.range k).foldl (fun st i => runT f st (i + 1)) ([], 0)
theorem runS_succ (f : Nat → Nat) (k : Nat) : runS f (k + 1) = runT f (runS f k) (k + 1) := by
  unfold runS
  rw [List.range_succ, List.foldl_append]
  rfl
theorem runS_le (f : Nat → Nat) : ∀ k, (runS f k).2 ≤ k := by
  intro k
  induction k with
  | zero => exact Nat.le_refl _
  | succ k ih =>
    rw [runS_succ]
    unfold runT
    split
    · omega
    · exact Nat.le_refl _
def repE (x : Nat × Nat) : Array Value := #[.int .i64 (x.1 : Int), .int .i64 (x.2 : Int)]
/-- the blocks of a trie and of the box of its parts -/
def repB (Bm : Nat) (vt vm vl : Value) (k : Nat) : Prop := k = Bm ∨ blk vt = some k ∨ blk vm = some k ∨ blk vl = some k
theorem rowU_cells {W : World} {B : Nat} {v : Value} {xs : List El} (h : RowE W B v xs) {g : Nat} (hg : blk v = some g) : ∃ cur, W.heap[g]? = some (.cells cur 5 (0, 0)) := by
  rcases h.2 with ⟨a, rfl, _⟩ | ⟨g', cap, cur, rfl, _, hh, _⟩
  · rw [blk_zero] at hg; cases hg
  · cases cap with
    | zero => rw [blk_zero] at hg; cases hg
    | succ c => cases hg; exact ⟨_, hh⟩
theorem PaAt.kept {w w' : World} {B : Nat} {vt vm vl : Value} {vs : List El} (h : PaAt w B vt vm vl vs) (hk : ∀ k o, (blk vt = some k ∨ blk vm = some k ∨ blk vl = some k) → o.isCells = true → w.heap[k]? = some o → w'.heap[k]? = some o) : PaAt w' B vt vm vl vs := by
  have e : ∀ g, (blk vt = some g ∨ blk vm = some g ∨ blk vl = some g) → (∃ o, w.heap[g]? = some o ∧ o.isCells = true) → w'.heap[g]? = w.heap[g]? := fun g hg ⟨o, ho, hc⟩ => (hk g o hg hc ho).trans ho.symm
  refine ⟨h.rt.kept fun g hg => ?_, h.rm.kept fun g hg => ?_, h.rl.kept fun g hg => ?_, h.len⟩
  · obtain ⟨cur, hc⟩ := rowW_cells h.rt hg
    exact e g (.inl hg) ⟨_, hc, rfl⟩
  · obtain ⟨cur, hc⟩ := rowW_cells h.rm hg
    exact e g (.inr (.inl hg)) ⟨_, hc, rfl⟩
  · obtain ⟨cur, hc⟩ := rowU_cells h.rl hg
    exact e g (.inr (.inr hg)) ⟨_, hc, rfl⟩
theorem PaAt.own {B : Nat} {vt vm vl : Value} {vs : List El} {w w' : World} {C : Nat} {row : Option Nat} (h : PaAt w B vt vm vl vs) (hg : w.grownBy w' row) (hr : ∀ r, row = some r → C ≤ r ∧ ∃ o : Obj, w.heap[r]? = some o ∧ o.isCells = false) : PaAt w' B vt vm vl vs :=
  h.kept fun k o _ hc ho => (grownBy_keeps_cells hg (fun r e => (hr r e).2) ho hc).trans ho
theorem hideQ {p : Prop} (h : p) : Hid p := h
theorem unhideQ {p : Prop} (h : Hid p) : p := h
set_option maxRecDepth 100000 in
set_option maxHeartbeats 4000000 in
theorem rep_in (B Bm n l : Nat) (vt vm vl : Value) (vs : List El) (hn : 4 ≤ n) (J Jx : List (Nat × Nat) → World → Prop) (W : World)
    (hY : ∀ pre x W1, J pre W1 → (∃ k, k ≤ 17408 ∧ pre ++ [x] = (runS (lowP vs) k).1) → W.heap.size + 0 ≤ W1.heap.size → YieldAt Fence.wide (n - 1) Try.prog l (repE x) W1 fun e W' =>
      (e = .returned (.bool true) ∧ J (pre ++ [x]) W' ∧ Kp4 0 (repB Bm vt vm vl) W.heap.size W1 W') ∨ (e = .returned (.bool false) ∧ Jx (pre ++ [x]) W' ∧ KeepsFrom W.heap.size W1 W'))
    (hJ : OwnFrom W.heap.size J) (hT : PaAt W B vt vm vl vs) (h1 : W.heap[Bm]? = some (.cells #[vt, vm, vl] 27 (0, 0))) (h0 : J [] W) :
    CallsIn Fence.wide n Try.prog 122 #[.func (.yield l) #[] #[], .pointer (some ⟨Bm, 0, none⟩)] W fun e W' => (∃ v, e = .returned v) ∧
      (J (runS (lowP vs) 17408).1 W' ∨ (∃ pre, (∃ k, k ≤ 17408 ∧ pre = (runS (lowP vs) k).1) ∧ Jx pre W')) := by
  have HYY := hideQ hY
  clear hY
  have HLA := hideQ (fun (V : World) (hV : PaAt V B vt vm vl vs) (p : Nat) (hp : p < 17408) => lowAtP_any V B vt vm vl vs hV p hp)
  obtain ⟨f, hf⟩ : ∃ f, f = lowP vs := ⟨_, rfl⟩
  rw [← hf] at HYY HLA ⊢
  clear hf
  refine callsIn_of_wp Try.func122 rfl trivial ?_ rfl
  simp only [Try.ntmps122, List.size_toArray, List.length_cons, List.length_nil, Nat.reduceAdd, Nat.reduceSub, Array.replicate_succ, Array.replicate_zero, List.push_toArray, List.append_toArray, List.nil_append, List.cons_append]
  have hn1 : 1 ≤ n := by omega
  have hn2 : 1 ≤ n - 1 := by omega
  have hF : ∀ f, Fence.wide.fn f := fun _ => trivial
  gi_wp2
  gi_loopw [3, 4] (fun v3 v4 wr => ∃ k : Nat, v3 = .int .i64 ((runS f k).2 : Int) ∧ v4 = .int .i64 ((k + 1 : Nat) : Int) ∧ k ≤ 17408 ∧ W.heap.size ≤ wr.heap.size ∧ Hid (PaAt wr B vt vm vl vs ∧ wr.heap[Bm]? = some (.cells #[vt, vm, vl] 27 (0, 0)) ∧ J (runS f k).1 wr))
    (fun v3 v4 _ => 17409 - (RowKit.intOf v4).toNat)
  case atStart => exact ⟨0, rfl, rfl, Nat.zero_le _, Nat.le_refl _, hT, h1, h0⟩
  case round =>
    obtain ⟨k, rfl, rfl, hk, hsz, HR⟩ := hrel
    have hfrom := runS_le f k
    have HS := hideQ (runS_succ f k)
    have HJ := hideQ hJ
    clear hJ
    generalize hst : runS f k = st at *
    obtain ⟨ls, s⟩ := st
    simp only at hfrom HR
    rcases Nat.lt_or_ge k 17408 with hlt | hge
    · have d1 : decide ((k : Int) + 1 ≤ 17408) = true := decide_eq_true (by omega)
      have HB := hideQ (fun (A V : World) (hA : W.heap.size ≤ A.heap.size) (hb : Below A.heap.size A V) (h : PaAt A B vt vm vl vs ∧ A.heap[Bm]? = some (.cells #[vt, vm, vl] 27 (0, 0)) ∧ J ls A) => (show PaAt V B vt vm vl vs ∧ V.heap[Bm]? = some (.cells #[vt, vm, vl] 27 (0, 0)) ∧ J ls V from
        ⟨h.1.below hb, (hb.block _ (Array.getElem?_eq_some_iff.1 h.2.1).1).trans h.2.1, unhideQ HJ ls A V none h.2.2 ⟨hb.os, hb.tape, hb.output, hb.size, fun k hk _ => hb.block k hk⟩ (fun r e => by cases e)⟩))
      obtain ⟨hTr, hbm, hJr⟩ := unhideQ HR
      have cbm : wr.cell? ⟨Bm, 0, none⟩ = some vt ∧ wr.cell? ⟨Bm, 1, none⟩ = some vm ∧ wr.cell? ⟨Bm, 2, none⟩ = some vl := by simp [World.cell?, hbm]
      obtain ⟨c0, c1, c2⟩ := cbm
      have HL1 := hideQ (unhideQ HLA wr hTr s (by omega))
      clear hTr hbm hJr
      gi_wp2_with fail
      refine CallsIn.mono (callsIn_wide.2 (unhideQ HL1)) ?_
      rintro e w2 ⟨rfl, hb2⟩
      have HR2 := hideQ (unhideQ HB wr w2 hsz hb2 (unhideQ HR))
      have hsz2 : W.heap.size ≤ w2.heap.size := Nat.le_trans hsz hb2.size
      clear hb2 HR HL1 c0 c1 c2
      have HYN := hideQ (fun (V : World) (hV : W.heap.size ≤ V.heap.size) (hJV : J ls V) (hr : runT f (ls, s) (k + 1) = (ls ++ [(f s, k + 1 - s)], k + 1)) => unhideQ HYY ls (f s, k + 1 - s) V hJV ⟨k + 1, hlt, by rw [unhideQ HS, hr]⟩ hV)
      rcases Nat.lt_or_ge (k + 1) 17408 with hl2 | hg2
      · have d2 : decide ((k : Int) + 1 < 17408) = true := decide_eq_true (by omega)
        obtain ⟨hTr, hbm, hJr⟩ := unhideQ HR2
        have cbm : w2.cell? ⟨Bm, 0, none⟩ = some vt ∧ w2.cell? ⟨Bm, 1, none⟩ = some vm ∧ w2.cell? ⟨Bm, 2, none⟩ = some vl := by simp [World.cell?, hbm]
        obtain ⟨c0, c1, c2⟩ := cbm
        have HL1 := hideQ (unhideQ HLA w2 hTr (k + 1) hl2)
        clear hTr hbm hJr
        gi_wp2_with fail
        refine CallsIn.mono (callsIn_wide.2 (unhideQ HL1)) ?_
        rintro e w3 ⟨rfl, hb3⟩
        have HR3 := hideQ (unhideQ HB w2 w3 hsz2 hb3 (unhideQ HR2))
        have hsz3 : W.heap.size ≤ w3.heap.size := Nat.le_trans hsz2 hb3.size
        clear hb3 HR2 HL1 c0 c1 c2
        by_cases he : f (k + 1) = f s
        · rw [he]
          gi_wp2
          go_roundw
          case rel => exact ⟨k + 1, by rw [unhideQ HS, runT, if_pos ⟨hl2, he⟩], by simp, by omega, hsz3, by rw [unhideQ HS, runT, if_pos ⟨hl2, he⟩]; exact HR3⟩
          case measure => simp [RowKit.intOf]; omega
        · have hrun : runT f (ls, s) (k + 1) = (ls ++ [(f s, k + 1 - s)], k + 1) := by unfold runT; rw [if_neg (fun h => he h.2)]
          have hne : ¬ (f (k + 1) : Int) = (f s : Int) := by omega
          have hnb : ((f (k + 1) : Int) == (f s : Int)) = false := by simpa using hne
          obtain ⟨hTr, hbm, hJr⟩ := unhideQ HR3
          obtain ⟨fn, tmps, assign, body, hy, hR⟩ := unhideQ HYN w3 hsz3 hJr hrun
          have hsub : (k : Int) + 1 - (s : Int) = ((k + 1 - s : Nat) : Int) := by omega
          dsimp only [repE] at hy
          rw [← hsub] at hy
          have HK := hideQ (And.intro hTr hbm)
          have HRUN := hideQ hrun
          clear hsub hTr hbm hJr hrun
          gi_wp2
          refine hR.mono ?_
          rintro e W5 (⟨rfl, hJ5, hk5⟩ | ⟨rfl, hJx5, hk5⟩)
          · have hT5 := (unhideQ HK).1.kept (w' := W5) (fun g o hg hc ho => hk5.2.2 g o (.inr (.inr hg)) hc ho)
            have hb5 := hk5.2.2 Bm _ (.inr (.inl rfl)) rfl (unhideQ HK).2
            have hsz5 : W.heap.size ≤ W5.heap.size := Nat.le_trans hsz3 hk5.1.size
            have HG := hideQ (And.intro hT5 (And.intro hb5 hJ5))
            clear hT5 hb5 hJ5
            gi_wp2
            go_roundw
            case rel => exact ⟨k + 1, by rw [unhideQ HS, unhideQ HRUN]; simp, by simp, by omega, hsz5, by rw [unhideQ HS, unhideQ HRUN]; exact HG⟩
            case measure => simp [RowKit.intOf]; omega
          · have HX := hideQ hJx5
            clear hJx5
            gi_wp2
            refine bodyPost_ret (results_none rfl _ _ _) rfl ?_
            exact ⟨⟨_, rfl⟩, .inr ⟨_, ⟨k + 1, hlt, by rw [unhideQ HS, unhideQ HRUN]⟩, unhideQ HX⟩⟩
      · have hrun : runT f (ls, s) (k + 1) = (ls ++ [(f s, k + 1 - s)], k + 1) := by unfold runT; rw [if_neg (fun h => by omega)]
        have d2 : decide ((k : Int) + 1 < 17408) = false := decide_eq_false (by omega)
        have d3 : ¬ (k : Int) + 1 < 17408 := by omega
        obtain ⟨hTr, hbm, hJr⟩ := unhideQ HR2
        obtain ⟨fn, tmps, assign, body, hy, hR⟩ := unhideQ HYN w2 hsz2 hJr hrun
        have hsub : (k : Int) + 1 - (s : Int) = ((k + 1 - s : Nat) : Int) := by omega
        dsimp only [repE] at hy
        rw [← hsub] at hy
        have HK := hideQ (And.intro hTr hbm)
        have HRUN := hideQ hrun
        clear hsub hTr hbm hJr hrun
        gi_wp2
        refine hR.mono ?_
        rintro e W5 (⟨rfl, hJ5, hk5⟩ | ⟨rfl, hJx5, hk5⟩)
        · have hT5 := (unhideQ HK).1.kept (w' := W5) (fun g o hg hc ho => hk5.2.2 g o (.inr (.inr hg)) hc ho)
          have hb5 := hk5.2.2 Bm _ (.inr (.inl rfl)) rfl (unhideQ HK).2
          have hsz5 : W.heap.size ≤ W5.heap.size := Nat.le_trans hsz2 hk5.1.size
          have HG := hideQ (And.intro hT5 (And.intro hb5 hJ5))
          clear hT5 hb5 hJ5
          gi_wp2
          go_roundw
          case rel => exact ⟨k + 1, by rw [unhideQ HS, unhideQ HRUN]; simp, by simp, by omega, hsz5, by rw [unhideQ HS, unhideQ HRUN]; exact HG⟩
          case measure => simp [RowKit.intOf]; omega
        · have HX := hideQ hJx5
          clear hJx5
          gi_wp2
          refine bodyPost_ret (results_none rfl _ _ _) rfl ?_
          exact ⟨⟨_, rfl⟩, .inr ⟨_, ⟨k + 1, hlt, by rw [unhideQ HS, unhideQ HRUN]⟩, unhideQ HX⟩⟩
    · obtain rfl : k = 17408 := by omega
      have HJ2 := hideQ (unhideQ HR).2.2
      have hls : (runS f 17408).1 = ls := by rw [hst]
      clear HR
      gi_wp2
      refine bodyPost_end (results_none rfl _ _ _) rfl ?_
      exact ⟨⟨_, rfl⟩, .inl (by rw [hls]; exact unhideQ HJ2)⟩
theorem repeats_any (w : World) (vt vm vl : Value) : Calls Try.prog 98 #[.agg #[vt, vm, vl]] w fun e w' => e = .returned (.func (.func 122) #[] #[.pointer (some ⟨w.heap.size, 0, none⟩)]) ∧ w' = w.alloc (.cells #[vt, vm, vl] 27) := by
  have hmf : ∀ (fn : Fn) (first cap : Array Value) (w : World), (Instr.makeFunc fn first cap).run Try.prog w = .ok (.func fn first cap) w := fun _ _ _ _ => rfl
  go_enter Try.func98, Try.ntmps98
  go_wp2
  go_ret
  exact ⟨rfl, rfl⟩
theorem rep_gives (B Bm n : Nat) (vt vm vl : Value) (vs : List El) (hn : 4 ≤ n) (w : World) (hT : PaAt w B vt vm vl vs) (h1 : w.heap[Bm]? = some (.cells #[vt, vm, vl] 27 (0, 0))) :
    Gives4 n Try.prog 122 #[.pointer (some ⟨Bm, 0, none⟩)] repE 0 (repB Bm vt vm vl) 0 0 (fun xs => xs = (runS (lowP vs) 17408).1) (fun pre => ∃ k, k ≤ 17408 ∧ pre = (runS (lowP vs) k).1) w :=
  fun l J Jx W hW hJ hJx hcalm hY h0 => (rep_in B Bm n l vt vm vl vs hn J Jx W hY hJ (hT.below hW) ((hW.block Bm (Array.getElem?_eq_some_iff.1 h1).1).trans h1) h0).mono (by
    rintro e w' ⟨h, h2 | h2⟩
    · exact ⟨h, .inl ⟨_, rfl, h2⟩⟩
    · exact ⟨h, .inr h2⟩)
theorem range_rep (f : Nat → Nat) (n c x : Nat) (h : ∀ r, n ≤ r → r < n + c → f r = x) : (List.range n).map f ++ List.replicate c x = (List.range (n + c)).map f := by
  induction c with
  | zero => simp
  | succ c ih =>
    rw [List.replicate_succ', ← List.append_assoc, ih (fun r h1 h2 => h r h1 (by omega)), show n + (c + 1) = (n + c) + 1 by omega, List.range_succ, List.map_append]
    simp [h (n + c) (by omega) (by omega)]
/-- what was told, one after another, is what stands at the places so far -/
def toldR (l : List (Nat × Nat)) : List Nat := (l.map fun x => List.replicate x.2 x.1).flatten
theorem runS_inv (f : Nat → Nat) : ∀ k, k ≤ 17408 → toldR (runS f k).1 = (List.range (runS f k).2).map f ∧ (k < 17408 → ∀ j, (runS f k).2 ≤ j → j ≤ k → f j = f (runS f k).2) ∧ (k = 17408 → (runS f k).2 = 17408) := by
  intro k
  induction k with
  | zero =>
    intro _
    refine ⟨rfl, fun _ j h1 h2 => ?_, fun h => by omega⟩
    obtain rfl : j = 0 := by omega
    rfl
  | succ k ih =>
    intro hk
    obtain ⟨i1, i2, _⟩ := ih (by omega)
    have i2 := i2 (by omega)
    have hs := runS_le f k
    rw [runS_succ]
    generalize runS f k = st at *
    obtain ⟨ls, s⟩ := st
    simp only at i1 i2 hs
    unfold runT
    by_cases h : k + 1 < 17408 ∧ f (k + 1) = f s
    · rw [if_pos h]
      refine ⟨i1, fun _ j h1 h2 => ?_, fun e => by omega⟩
      rcases Nat.lt_or_ge k j with hj | hj
      · obtain rfl : j = k + 1 := by omega
        exact h.2
      · exact i2 j h1 hj
    · rw [if_neg h]
      refine ⟨?_, fun _ j h1 h2 => ?_, fun e => e⟩
      · show toldR (ls ++ [(f s, k + 1 - s)]) = _
        unfold toldR at i1 ⊢
        rw [List.map_append, List.flatten_append, i1]
        simp only [List.map_cons, List.map_nil, List.flatten_cons, List.flatten_nil, List.append_nil]
        rw [range_rep f s (k + 1 - s) (f s) (fun r h1 h2 => i2 r h1 (by omega)), show s + (k + 1 - s) = k + 1 by omega]
      · obtain rfl : j = k + 1 := by omega
        rfl
theorem runS_all (f : Nat → Nat) : toldR (runS f 17408).1 = (List.range 17408).map f := by
  obtain ⟨h1, _, h3⟩ := runS_inv f 17408 (Nat.le_refl _)
  rw [h1, h3 rfl]
end Go.Proofs.Ytokillomaemocaa.VU
/-
  The mathematics of turned: the low blocks told by repeats, laid one behind another, are the values.
-/
namespace Go.Proofs.Ytokillomaemocaa.VU
open Go.RowKit Go.PlainAid Go.Lib Go.PRow Go.Maps Go.TrM
set_option linter.unusedVariables false
/-- the low block of a number -/
def lowB (vs : List El) (no : Nat) : List El := ((lowsV vs).1[no]?).getD []
theorem low_place (vs : List El) (h : vs.length = 1114112) (p : Nat) (hp : p < 17408) : lowB vs (lowP vs p) = (vs.drop (64 * p)).take 64 ∧ lowP vs p < (lowsV vs).1.length := by
  obtain ⟨m, l, _, _, _, h4, h5, h6⟩ := place_at vs (p := p) (by rw [h]; omega)
  have e : lowP vs p = l := by unfold lowP; rw [h4]; rfl
  rw [e]
  exact ⟨by unfold lowB; rw [h6]; rfl, h5⟩
theorem vals_back (vs : List El) (h : vs.length = 1114112) : (((List.range 17408).map (lowP vs)).map (lowB vs)).flatten = vs := by
  have e : ((List.range 17408).map (lowP vs)).map (lowB vs) = cutN 17408 vs := by
    apply List.ext_getElem?
    intro i
    rcases Nat.lt_or_ge i 17408 with hi | hi
    · rw [List.getElem?_map, List.getElem?_map, List.getElem?_range hi, cutN_at 17408 vs i hi]
      exact congrArg some (low_place vs h i hi).1
    · rw [List.getElem?_eq_none (by simpa using hi), List.getElem?_eq_none (by rw [cutN_len]; exact hi)]
  rw [e, flat_cutN 17408 vs (by rw [h])]
/-- the values that turned lays: for each pair its block, turned, so many times -/
def laidT {β : Type} (φ : El → β) (vs : List El) (l : List (Nat × Nat)) : List β := (l.map fun x => (List.replicate x.2 ((lowB vs x.1).map φ)).flatten).flatten
theorem laid_all {β : Type} (φ : El → β) (vs : List El) (h : vs.length = 1114112) : laidT φ vs (runS (lowP vs) 17408).1 = vs.map φ := by
  have key : ∀ l : List (Nat × Nat), laidT φ vs l = ((toldR l).map (fun no => (lowB vs no).map φ)).flatten := by
    intro l
    induction l with
    | nil => rfl
    | cons x l ih =>
      unfold laidT toldR at ih ⊢
      rw [List.map_cons, List.flatten_cons, ih, List.map_cons, List.flatten_cons, List.map_append, List.flatten_append, List.map_replicate]
  rw [key, runS_all]
  have e := congrArg (List.map φ) (vals_back vs h)
  rw [List.map_flatten, List.map_map] at e
  exact e
theorem runS_mem (f : Nat → Nat) : ∀ k, k ≤ 17408 → ∀ y ∈ (runS f k).1, 0 < y.2 ∧ ∃ s, s < 17408 ∧ y.1 = f s := by
  intro k
  induction k with
  | zero => intro _ y hy; cases hy
  | succ k ih =>
    intro hk y hy
    have hs := runS_le f k
    rw [runS_succ] at hy
    unfold runT at hy
    split at hy
    · exact ih (by omega) y hy
    · rcases List.mem_append.1 hy with hy | hy
      · exact ih (by omega) y hy
      · rw [List.mem_singleton.1 hy]
        exact ⟨by simp only; omega, _, by omega, rfl⟩
theorem laidT_app {β : Type} (φ : El → β) (vs : List El) (l : List (Nat × Nat)) (x : Nat × Nat) : laidT φ vs (l ++ [x]) = laidT φ vs l ++ (List.replicate x.2 ((lowB vs x.1).map φ)).flatten := by
  unfold laidT
  rw [List.map_append, List.flatten_append]
  simp
theorem lowB_len (vs : List El) (h : vs.length = 1114112) (p : Nat) (hp : p < 17408) : (lowB vs (lowP vs p)).length = 64 := by
  rw [(low_place vs h p hp).1, List.length_take, List.length_drop, h]
  omega
theorem lowB_at (vs : List El) (h : vs.length = 1114112) (p : Nat) (hp : p < 17408) (i : Nat) (y : El) (hy : (lowB vs (lowP vs p))[i]? = some y) : (partsV vs).low[lowP vs p * 64 + i]? = some y ∧ i < 64 ∧ y ∈ vs := by
  have hi : i < 64 := by have := (List.getElem?_eq_some_iff.1 hy).1; rw [lowB_len vs h p hp] at this; exact this
  rw [(low_place vs h p hp).1, List.getElem?_take, if_pos hi, List.getElem?_drop] at hy
  have := (low_cell h (n := 64 * p + i) (by omega) hy).1
  rw [show (64 * p + i) / 64 = p by omega, show (64 * p + i) % 64 = i by omega] at this
  exact ⟨this, hi, List.mem_of_getElem? hy⟩
theorem laidT_len {β : Type} (φ : El → β) (vs : List El) : ∀ l : List (Nat × Nat), (∀ y ∈ l, (lowB vs y.1).length = 64) → (laidT φ vs l).length = 64 * (toldR l).length := by
  intro l
  induction l with
  | nil => intro _; rfl
  | cons x l ih =>
    intro h
    have ih := ih (fun y hy => h y (List.mem_cons_of_mem _ hy))
    have hx := h x (List.mem_cons_self)
    have hr : (List.replicate x.2 ((lowB vs x.1).map φ)).flatten.length = 64 * x.2 := by
      have : ∀ n, (List.replicate n ((lowB vs x.1).map φ)).flatten.length = 64 * n := by
        intro n
        induction n with
        | zero => rfl
        | succ n ihn => rw [List.replicate_succ, List.flatten_cons, List.length_append, ihn, List.length_map, hx]; omega
      exact this x.2
    unfold laidT toldR at ih ⊢
    rw [List.map_cons, List.flatten_cons, List.length_append, ih, hr, List.map_cons, List.flatten_cons, List.length_append, List.length_replicate]
    omega
/-- where turned is when a pair was told: how many values are laid, and how many more come -/
theorem laidT_step {β : Type} (φ : El → β) (vs : List El) (h : vs.length = 1114112) (pre : List (Nat × Nat)) (x : Nat × Nat) (k : Nat) (hk : k ≤ 17408) (e : pre ++ [x] = (runS (lowP vs) k).1) :
    (laidT φ vs pre).length % 64 = 0 ∧ (laidT φ vs pre).length + 64 * x.2 ≤ 1114112 ∧ 0 < x.2 ∧ ∃ s, s < 17408 ∧ x.1 = lowP vs s := by
  have hm := runS_mem (lowP vs) k hk
  rw [← e] at hm
  have hl : ∀ y ∈ pre ++ [x], (lowB vs y.1).length = 64 := fun y hy => by
    obtain ⟨_, s, hs, hy⟩ := hm y hy
    rw [hy, lowB_len vs h s hs]
  have h1 := laidT_len φ vs pre (fun y hy => hl y (List.mem_append_left _ hy))
  have h2 := (runS_inv (lowP vs) k hk).1
  rw [← e] at h2
  have h3 := runS_le (lowP vs) k
  have h4 : (toldR (pre ++ [x])).length = (toldR pre).length + x.2 := by unfold toldR; simp
  rw [h2, List.length_map, List.length_range] at h4
  obtain ⟨h5, h6⟩ := hm x (List.mem_append_right _ (List.mem_singleton.2 rfl))
  exact ⟨by omega, by omega, h5, h6⟩
end Go.Proofs.Ytokillomaemocaa.VU
