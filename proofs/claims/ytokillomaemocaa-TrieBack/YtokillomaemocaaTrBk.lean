/-
  TrieBack walked.
-/
import Derived.Test.YtokillomaemocaaTrTn
import Derived.Test.YtokillomaemocaaTrSsU
import Derived.Test.YtokillomaemocaaTrQv
import Derived.Test.YtokillomaemocaaTrFl
import Derived.Test.YtokillomaemocaaTrBkM
namespace Go.Proofs.Ytokillomaemocaa.trieBack
open Go.ChangeShapes Go.WideShapes Go.ChangeAt Go.RowKit Go.PlainAid Go.Lib Go.ChangeMaps Go.PRow Go.TrM Go.SeqM
open Go.Proofs.Ytokillomaemocaa.VK (SpAt RowP)
open Go.Proofs.Ytokillomaemocaa.trieSmall (Blt build_blt row_sp)
attribute [local go_sem] Oper.semAt_some
set_option linter.unusedVariables false
set_option linter.unusedSimpArgs false
/-- the box of what was told -/
structure BkAt (w1 U : World) (b10 C : Nat) (l : List (Pc Int)) : Prop where
  bel : Below w1.heap.size w1 U
  row : ∃ a m c, U.heap[b10]? = some (.cells #[.slice a m c] 22 (0, 0)) ∧ RowP U C (.slice a m c) l
  lo : w1.heap.size ≤ b10
  hi : b10 < C
  sz : C ≤ U.heap.size
theorem row_cellsP {W : World} {B : Nat} {v : Value} {ps : List (Pc Int)} (h : RowP W B v ps) {g : Nat} (hg : blk v = some g) : ∃ cur, W.heap[g]? = some (.cells cur 72 (0, 0)) := by
  rcases h.rw with ⟨a, rfl, _⟩ | ⟨g', cap, cur, rfl, hb, R⟩
  · rw [blk_zero] at hg; cases hg
  · cases cap with
    | zero => rw [blk_zero] at hg; cases hg
    | succ c => cases hg; exact ⟨_, R.hh⟩
theorem BkAt.own {w1 U X : World} {b10 C D : Nat} {l : List (Pc Int)} (h : BkAt w1 U b10 C l) {row : Option Nat} (hD : w1.heap.size ≤ D) (hg : U.grownBy X row) (hr : ∀ r, row = some r → D ≤ r ∧ ∃ o : Obj, U.heap[r]? = some o ∧ o.isCells = false) : BkAt w1 X b10 C l := by
  have hk : ∀ {i : Nat} {ob : Obj}, U.heap[i]? = some ob → ob.isCells = true → X.heap[i]? = some ob := fun hi hc => (grownBy_keeps_cells hg (fun r e => (hr r e).2) hi hc).trans hi
  obtain ⟨a, m, c, h1, h2⟩ := h.row
  refine ⟨h.bel.grown hg h.bel.size (fun k hk => by have := (hr k hk).1; omega), ⟨a, m, c, hk h1 rfl, h2.kept fun g e => ?_⟩, h.lo, h.hi, Nat.le_trans h.sz hg.size⟩
  obtain ⟨cur, hc⟩ := row_cellsP h2 e
  exact (hk hc rfl).trans hc.symm
theorem BkAt.below {w1 U X : World} {b10 C : Nat} {l : List (Pc Int)} (h : BkAt w1 U b10 C l) (hb : Below U.heap.size U X) : BkAt w1 X b10 C l := by
  obtain ⟨a, m, c, h1, h2⟩ := h.row
  exact ⟨h.bel.trans (hb.mono h.bel.size), ⟨a, m, c, (hb.block _ (Array.getElem?_eq_some_iff.1 h1).1).trans h1, h2.below hb⟩, h.lo, h.hi, Nat.le_trans h.sz hb.size⟩
/-- one span more is in the box -/
theorem BkAt.put {w1 U X : World} {b10 C : Nat} {l : List (Pc Int)} {a a' : Option Addr} {m c m' c' : Nat} {p : Pc Int} (h : BkAt w1 U b10 C l) (hh : U.heap[b10]? = some (.cells #[.slice a m c] 22 (0, 0))) (hr : RowP U C (.slice a m c) l) (hg : U.grownBy X (blk (.slice a m c))) (hX : RowP X C (.slice a' m' c') (l ++ [p])) :
    BkAt w1 (X.setCell ⟨b10, 0, none⟩ (.slice a' m' c')) b10 C (l ++ [p]) ∧ X.cell? ⟨b10, 0, none⟩ = some (.slice a m c) ∧ X.frozen? ⟨b10, 0, none⟩ = false ∧ (∀ (k : Nat) (ob : Obj), k ≠ b10 → k < C → U.heap[k]? = some ob → (X.setCell ⟨b10, 0, none⟩ (.slice a' m' c')).heap[k]? = some ob) ∧ (∀ (k : Nat) (ob : Obj), ob.isCells = false → U.heap[k]? = some ob → (X.setCell ⟨b10, 0, none⟩ (.slice a' m' c')).heap[k]? = some ob) ∧ U.heap.size ≤ (X.setCell ⟨b10, 0, none⟩ (.slice a' m' c')).heap.size := by
  have hlt := hr.lt
  have hx10 : X.heap[b10]? = some (.cells #[.slice a m c] 22 (0, 0)) := (hg.block b10 (Array.getElem?_eq_some_iff.1 hh).1 (fun e => by have := (hlt b10 e.symm).1; have := h.hi; omega)).trans hh
  have hlo := h.lo
  have hhi := h.hi
  have hsz := h.sz
  refine ⟨⟨(h.bel.grown hg h.bel.size (fun k hk => by have := (hlt k hk).1; omega)).setCell (by simpa using hlo) _, ⟨a', m', c', ?_, hX.kept fun g e => VU.set_ne (fun q => by have := (hX.lt g e).1; omega)⟩, hlo, hhi, by rw [World.size_setCell]; exact Nat.le_trans hsz hg.size⟩, by simp [World.cell?, hx10], by simp [World.frozen?, hx10], fun k ob k1 k2 ho => ?_, fun k ob hc ho => ?_, by rw [World.size_setCell]; exact hg.size⟩
  · simp only [World.setCell, Array.getElem?_modify, if_true, hx10, Option.map_some]
    rfl
  · exact (VU.set_ne k1).trans ((hg.block k (Array.getElem?_eq_some_iff.1 ho).1 (fun e => by have := (hlt k e.symm).1; omega)).trans ho)
  · have hk1 : k ≠ b10 := fun e => by subst e; rw [hh] at ho; cases ho; cases hc
    refine (VU.set_ne hk1).trans ((hg.block k (Array.getElem?_eq_some_iff.1 ho).1 (fun e => ?_)).trans ho)
    obtain ⟨cur, hcur⟩ := row_cellsP hr e.symm
    rw [hcur] at ho
    cases ho
    cases hc
theorem snoc_inj' {α : Type} {a b : List α} {x y : α} (h : a ++ [x] = b ++ [y]) : a = b ∧ x = y := by
  have h1 := List.append_inj_left' h rfl
  have h2 := List.append_inj_right' h rfl
  exact ⟨h1, (List.cons.inj h2).1⟩
theorem take_rev {ps : List (Pc Int)} {i : Nat} {p : Pc Int} (hi : i < ps.length) (hp : ps[i]? = some p) : ps.reverse.take (ps.length - (i + 1)) ++ [p] = ps.reverse.take (ps.length - i) := by
  have e : ps.length - i = (ps.length - (i + 1)) + 1 := by omega
  rw [e, List.take_add_one]
  have : ps.reverse[ps.length - (i + 1)]? = some p := by
    rw [List.getElem?_reverse (by omega), ← hp]
    congr 1
    omega
  rw [this]
  rfl
set_option maxRecDepth 100000 in
set_option maxHeartbeats 4000000 in
theorem walk (rest : Int) (a : Option Addr) (n cap : Nat) (ps : List (Pc Int)) (other : Int) (w : World) (hr0 : 0 ≤ rest) (hr1 : rest ≤ 255) (hn : ps.length = n) (hc : n ≤ cap) (hS : SpAt w a ps) (hv : ∀ p ∈ ps, 0 ≤ p.val ∧ p.val < 256) (ho0 : 0 ≤ other) (ho1 : other ≤ 255) :
    Calls Try.prog 6 #[.int .u8 rest, .slice a n cap, .int .u8 other] w fun e w' => e = .returned (.bool true) ∧ Below w.heap.size w w' := by
  have HS := VU.hide hS
  have HVV := VU.hide hv
  have HN := VU.hide hn
  clear hS hv hn
  have HAW := VU.hide (fun X => VK.awake_any X)
  have hF : ∀ f, Fence.wide.fn f := fun _ => trivial
  refine (callsIn_wide (n := 18)).1 ?_
  refine callsIn_of_wp_marks Try.func6 rfl trivial ?_ rfl
  simp only [Try.ntmps6, List.size_toArray, List.length_cons, List.length_nil, Nat.reduceAdd, Nat.reduceSub, Array.replicate_succ, Array.replicate_zero, List.push_toArray, List.append_toArray, List.nil_append, List.cons_append]
  gi_wp2_with fail
  refine (callsIn_wide.2 (VU.unhide HAW w)).mono ?_
  rintro e w0 ⟨rfl, hb0⟩
  have HB0 := VU.hide hb0
  have HS0 := VU.hide ((VU.unhide HS).below hb0)
  clear hb0 HS
  by_cases h60 : 60 < n
  · gi_wp2_with fail
    refine (callsIn_wide.2 (VU.unhide HAW w0)).mono ?_
    rintro e w1 ⟨rfl, hb1⟩
    have HF := VU.hide ((VU.unhide HB0).trans (hb1.mono (VU.unhide HB0).size))
    clear hb1
    gi_wp2
    exact ⟨_, results_tmp rfl _ _ _, rfl, VU.unhide HF⟩
  have h60' : decide ((60 : Int) < (n : Int)) = false := decide_eq_false (by omega)
  gi_wp2_with fail
  refine (callsIn_wide.2 (build_blt rest hr0 hr1 a cap ps n (VU.unhide HN) (by omega) hc (VU.unhide HVV) w0 (VU.unhide HS0))).mono ?_
  rintro e w1 ⟨v7, v8, v9, rfl, hbl, hb1⟩
  have HS1 := VU.hide ((VU.unhide HS0).below hb1)
  have HB1 := VU.hide ((VU.unhide HB0).trans (hb1.mono (VU.unhide HB0).size))
  clear hb1 HB0 HS0
  by_cases h0 : (refP ps).2 = 0
  rotate_left
  · obtain ⟨rfl, _, h7⟩ := hbl
    obtain rfl := h7 h0
    have hz : ¬ ((refP ps).2 : Int) = 0 := by omega
    clear h7
    generalize (refP ps).2 = k0 at *
    gi_wp2_with fail
    refine (callsIn_wide.2 (VU.unhide HAW w1)).mono ?_
    rintro e w2 ⟨rfl, hb2⟩
    have HF := VU.hide ((VU.unhide HB1).trans (hb2.mono (VU.unhide HB1).size))
    clear hb2
    gi_wp2
    exact ⟨_, results_tmp rfl _ _ _, rfl, VU.unhide HF⟩
  obtain ⟨rfl, h, _⟩ := hbl
  obtain ⟨bt, vt, vm, vl, rfl, hT⟩ := h h0
  rw [h0]
  clear h
  have hsm := trieTurns.vals_small rest hr0 (by omega) ps (VU.unhide HVV)
  have hrv := rev_vals ps h0 rest
  have hrr := rev_ref ps h0
  obtain ⟨vs, hvs⟩ : ∃ vs, vs = valsF rest ps := ⟨_, rfl⟩
  rw [← hvs] at hT hsm hrv
  have hlen := hT.len
  have HT1 := VU.hide hT
  have HSM := VU.hide hsm
  have HRV := VU.hide (And.intro hrr hrv)
  have HSP := VU.hide (And.intro (spans_ref vs hlen) (And.intro (spans_vals vs hlen other) (And.intro (spans_len vs hlen) (spans_mem vs))))
  clear hvs hsm hrv hrr hT
  obtain ⟨V1, hV1⟩ : ∃ V1, V1 = w1.alloc (.cells #[.slice none 0 0] 22) := ⟨_, rfl⟩
  have HV1 := VU.hide hV1
  have hb11 : Below w1.heap.size w1 V1 := by rw [hV1]; exact (Below.refl _ w1).alloc (Nat.le_refl _) _
  have hx10 : V1.heap[w1.heap.size]? = some (.cells #[.slice none 0 0] 22 (0, 0)) := by rw [hV1]; exact World.alloc_heap_new w1 _
  have hs11 : V1.heap.size = w1.heap.size + 1 := by rw [hV1]; simp
  have HL1 := VU.hide (And.intro hb11 (And.intro hx10 hs11))
  clear hV1 hb11 hx10 hs11
  have hfn : ∀ (f : Nat) (cap : Array Value) (w : World), Sem.run Try.prog (binOp BinOp.eql 56 (.func (.func f) #[] cap) .nilFunc) w = .ok (.bool false) w := fun f cap w => by
    have he : Sem.run Try.prog (Op.equal 56 (.func (.func f) #[] cap) .nilFunc) w = .ok false w := by
      kernel_rfl
    simp only [binOp, Sem.run_bind, he, Result.andThen]
    rfl
  gi_wp2_with fail
  rw [← VU.unhide HV1]
  refine (callsIn_wide.2 (VU.spans_any V1 bt)).mono ?_
  rintro e W2 ⟨rfl, hW2⟩
  have HW2 := VU.hide hW2
  clear hW2
  gi_wp2_with fail
  refine (callsIn_wide.2 (VU.spans_any W2 bt)).mono ?_
  rintro e W3 ⟨rfl, hW3⟩
  obtain ⟨hb11, hx10, hs11⟩ := VU.unhide HL1
  have hW2 := VU.unhide HW2
  have hb12 : Below V1.heap.size V1 W2 := by rw [hW2]; exact (Below.refl _ V1).alloc (Nat.le_refl _) _
  have hb23 : Below W2.heap.size W2 W3 := by rw [hW3]; exact (Below.refl _ W2).alloc (Nat.le_refl _) _
  have hb13 : Below w1.heap.size w1 W3 := hb11.trans ((hb12.trans (hb23.mono hb12.size)).mono hb11.size)
  have hq1 : W3.heap[W2.heap.size]? = some (.cells #[.pointer (some ⟨bt, 0, none⟩)] 29 (0, 0)) := by rw [hW3]; exact World.alloc_heap_new W2 _
  have hs2 : W2.heap.size = w1.heap.size + 2 := by rw [hW2]; simp; omega
  have hs3 : W3.heap.size = w1.heap.size + 3 := by rw [hW3]; simp; omega
  have hT3 := (VU.unhide HT1).below hb13
  have hbk : BkAt w1 W3 w1.heap.size W3.heap.size [] := ⟨hb13, ⟨none, 0, 0, (hb23.block _ (by omega)).trans ((hb12.block _ (by omega)).trans hx10), RowV.nil _ _ _ _ _⟩, Nat.le_refl _, by omega, Nat.le_refl _⟩
  have HLOW := VU.hide (And.intro hs2 hs3)
  have hszA : w1.heap.size + 3 ≤ W3.heap.size := by omega
  clear hs2 hs3 hW2 hW3 hb12 hb23 hb11 hx10 hs11 HW2 HL1 HV1
  gi_wp2_with fail
  refine range4B (by omega) (gf := 62) (lb := #[.pointer (some ⟨W2.heap.size, 0, none⟩)]) rfl (enters_of Try.func62 (by kernel_rfl) rfl)
    (VU.sp_gives _ W2.heap.size bt _ vt vm vl vs (by omega) W3 hT3 hq1) (Below.refl _ _) (fun _ => rfl)
    (fun pre U => BkAt w1 U w1.heap.size W3.heap.size pre ∧ pre.length ≤ 1114112) (fun c pre U => False)
    (fun st A B row hx hg hr => ⟨hx.1.own (by omega) hg hr, hx.2⟩) (fun c => own_pure _ _) (CalmR.none _ _ _) ⟨hbk, Nat.zero_le _⟩
    (fun x => .cells #[.int .i32 x.lo, .int .i32 x.hi, .int .u8 x.val] 72 (0, 0)) (fun _ => rfl) ?fr ?assign ?body ?done ?stop
  case assign =>
    intro l2 x U K hK
    simp only [VU.spE]
    gi_wp2
    generalize hBx : U.heap.size = Bx
    exact hK Bx hBx.symm
  case stop => rintro D c pre U _ _ h; exact h.elim
  case body =>
    rintro l2 pre x Bx U hl2 hsz2 ⟨r, hr⟩ ⟨hbU, hpl⟩ hx1 hx2 hSp
    have hpl2 : pre.length + 1 ≤ 1114112 := by
      obtain ⟨k2, xv, hxv, hpre⟩ := hSp
      obtain ⟨e1, e2⟩ := snoc_inj' hpre
      have h4 := (spS_inv vs k2).2.2.2
      have h5 := (List.getElem?_eq_some_iff.1 hxv).1
      rw [hlen] at h5
      rw [e1]
      omega
    obtain ⟨s1, s2, s3, hh, hrow⟩ := hbU.row
    obtain ⟨lo, hi, val⟩ := x
    have hbig : (pre.length + 1) * 12 ≤ 140737488355328 := by omega
    have hrow2 : RowP (U.alloc (.cells #[.int .i32 lo, .int .i32 hi, .int .u8 val] 72)) W3.heap.size (.slice s1 s2 s3) pre := hrow.below ((Below.refl _ U).alloc (Nat.le_refl _) _)
    have HAPP := VU.hide (VK.append_x W3.heap.size U.heap.size (.slice s1 s2 s3) pre ⟨lo, hi, val⟩ (U.alloc (.cells #[.int .i32 lo, .int .i32 hi, .int .u8 val] 72)) (by have := hbU.sz; simp; omega) hrow2 (World.alloc_heap_new U _) hbig)
    have c10 : U.cell? ⟨w1.heap.size, 0, none⟩ = some (.slice s1 s2 s3) := by simp [World.cell?, hh]
    have x0 : U.cell? ⟨Bx, 0, none⟩ = some (.int .i32 lo) := by simp [World.cell?, hx1]
    have x1 : U.cell? ⟨Bx, 1, none⟩ = some (.int .i32 hi) := by simp [World.cell?, hx1]
    have x2 : U.cell? ⟨Bx, 2, none⟩ = some (.int .u8 val) := by simp [World.cell?, hx1]
    have hbU2 := hbU.below ((Below.refl _ U).alloc (Nat.le_refl _) (.cells #[.int .i32 lo, .int .i32 hi, .int .u8 val] 72))
    have hh2 : (U.alloc (.cells #[.int .i32 lo, .int .i32 hi, .int .u8 val] 72)).heap[w1.heap.size]? = some (.cells #[.slice s1 s2 s3] 22 (0, 0)) := (Below.heap_alloc U _ _ (Array.getElem?_eq_some_iff.1 hh).1).trans hh
    have HBU := VU.hide (And.intro hbU2 (And.intro hh2 (And.intro hrow2 (And.intro hpl2 hbU.sz))))
    clear hbU hh hrow hrow2 hbU2 hh2 hx1 hSp hT3 hq1 hbk hb13 hpl hpl2
    gi_wp2_with (gi_at_builtin; refine wpListIn_appendT rfl _ _ _ _ rfl _ _ rfl rfl (VU.unhide HAPP) ?_; rintro s5 w5 ⟨hX, hg⟩; obtain ⟨u1, u2, u3, rfl⟩ : ∃ a m c, s5 = .slice a m c := (by obtain ⟨a, c, e, _⟩ := hX.form; exact ⟨a, _, c, e⟩); obtain ⟨hn1, hn2, hn3, hn4, hn5, hn6⟩ := BkAt.put (VU.unhide HBU).1 (VU.unhide HBU).2.1 (VU.unhide HBU).2.2.1 hg hX; have HNN := VU.hide (And.intro hn1 (And.intro hn4 (And.intro hn5 hn6))); clear hn1 hn4 hn5 hn6 hX hg)
    obtain ⟨hn1, hn4, hn5, hn6⟩ := VU.unhide HNN
    have hsU := (VU.unhide HBU).2.2.2.2
    have hal : ∀ (q : Nat) (ob : Obj), U.heap[q]? = some ob → (U.alloc (.cells #[.int .i32 lo, .int .i32 hi, .int .u8 val] 72)).heap[q]? = some ob := fun q ob hq => (Below.heap_alloc U _ _ (Array.getElem?_eq_some_iff.1 hq).1).trans hq
    have hsz6 : U.heap.size ≤ (w5.setCell ⟨w1.heap.size, 0, none⟩ (.slice u1 u2 u3)).heap.size := by simp only [World.size_alloc] at hn6; omega
    refine ⟨⟨hsz6, fun q ob hq hob hoc => hn5 q ob hoc (hal q ob hob)⟩, ⟨⟨hsz6⟩, fun q ob hq hcc hob => ?_⟩, hn1, ?_⟩
    · have hT1 := VU.unhide HT1
      obtain ⟨l2', l3'⟩ := VU.unhide HLOW
      have hbt := hT1.lt
      refine hn4 q ob ?_ ?_ (hal q ob hob)
      all_goals
        rcases hq with hq | hq | hq | hq | hq | hq
        · omega
        · omega
        · omega
        · have := (hT1.rt.lt q hq).2; omega
        · have := (hT1.rm.lt q hq).2; omega
        · have := (hT1.rl.lt q hq).2; omega
    · rw [List.length_append, List.length_singleton]
      exact (VU.unhide HBU).2.2.2.1
  case done =>
    rintro D xs U hD hS ⟨hbU, hpl⟩ hK
    have hS : xs = spansV vs := hS
    subst hS
    have hTU := (VU.unhide HT1).below hbU.bel
    have hSU := (VU.unhide HS1).below hbU.bel
    obtain ⟨ta, tm, tc, h10, hrow⟩ := hbU.row
    have hBU := (VU.unhide HB1).trans (hbU.bel.mono (VU.unhide HB1).size)
    have hDw : w.heap.size ≤ D := by have := (VU.unhide HB1).size; omega
    have HU := VU.hide (And.intro hTU (And.intro hSU (And.intro h10 (And.intro hrow (And.intro hBU (And.intro hK hDw))))))
    have hnn := VU.unhide HN
    have HH : Hid (w1.heap.size < U.heap.size) := by have := hbU.hi; have := hbU.sz; show w1.heap.size < U.heap.size; omega
    clear hbU hpl hTU hSU h10 hrow hBU hK hT3 hq1 hbk hb13 hDw
    simp only [Exit.inBlock]
    have q0 : IntKind.i64.wrap ((n : Int) - 1) = (n : Int) - 1 := by rw [IntKind.wrap_i64]; omega
    gi_wp2_with fail
    gi_loopw [11, 13] (fun v11 v13 wr => ∃ (i m : Nat) (s1 : Option Addr) (s3 : Nat), v11 = .slice s1 m s3 ∧ v13 = .int .i64 ((i : Int) - 1) ∧ m + i = n ∧ Hid (RowP wr U.heap.size (.slice s1 m s3) (ps.reverse.take m) ∧ Below U.heap.size U wr))
      (fun _ v13 _ => (RowKit.intOf v13 + 1).toNat)
    case atStart => exact ⟨n, 0, none, 0, rfl, rfl, by omega, VU.hide ⟨by rw [List.take_zero]; exact RowV.nil _ _ _ _ _, Below.refl _ _⟩⟩
    case round =>
      obtain ⟨i, m, s1, s3, rfl, rfl, him, HR⟩ := hrel
      rcases i with _ | j
      · have d1 : decide ((0 : Int) ≤ ((0 : Nat) : Int) - 1) = false := by decide
        obtain rfl : m = n := by omega
        have hR := VU.unhide HR
        rw [List.take_of_length_le (by rw [List.length_reverse, hnn]; exact Nat.le_refl _)] at hR
        have HR2 := VU.hide hR
        have c10 : wr.cell? ⟨w1.heap.size, 0, none⟩ = some (.slice ta tm tc) := by
          have h := (hR.2.block _ (VU.unhide HH)).trans (VU.unhide HU).2.2.1
          simp [World.cell?, h]
        obtain ⟨g1, g2, g3⟩ := row_sp (VU.unhide HU).2.2.2.1
        have HTS := VU.hide (show tm = (spansV vs).length ∧ tm ≤ tc ∧ SpAt wr ta (spansV vs) from ⟨g1, g2, g3.below hR.2⟩)
        clear hR HR g1 g2 g3
        gi_wp2_with fail
        refine (callsIn_wide.2 (build_blt other ho0 ho1 ta tc (spansV vs) tm (VU.unhide HTS).1.symm (by have := (VU.unhide HSP).2.2.1; have := (VU.unhide HTS).1; omega) (VU.unhide HTS).2.1 (fun p hp => VU.unhide HSM _ ((VU.unhide HSP).2.2.2 p hp)) wr (VU.unhide HTS).2.2)).mono ?_
        rintro e X1 ⟨y1, y2, y3, rfl, ⟨rfl, hbl, _⟩, hb1⟩
        obtain ⟨ub, ut, um, ul, rfl, hTu⟩ := hbl (VU.unhide HSP).1
        rw [(VU.unhide HSP).2.1] at hTu
        rw [(VU.unhide HSP).1]
        have HTu := VU.hide hTu
        have HRw := VU.hide (row_sp ((VU.unhide HR2).1.below hb1))
        have HX1 := VU.hide ((VU.unhide HR2).2.trans (hb1.mono (VU.unhide HR2).2.size))
        clear hTu hbl hb1 HTS HR2 c10
        gi_wp2_with fail
        refine (callsIn_wide.2 (build_blt rest hr0 hr1 s1 s3 ps.reverse m (VU.unhide HRw).1.symm (by omega) (VU.unhide HRw).2.1 (fun p hp => VU.unhide HVV p (List.mem_reverse.1 hp)) X1 (VU.unhide HRw).2.2)).mono ?_
        rintro e X2 ⟨z1, z2, z3, rfl, ⟨rfl, hbl, _⟩, hb2⟩
        obtain ⟨wb, wt, wm, wl, rfl, hTw⟩ := hbl (VU.unhide HRV).1
        rw [(VU.unhide HRV).2] at hTw
        rw [(VU.unhide HRV).1]
        have HTw := VU.hide hTw
        have HTu2 := VU.hide ((VU.unhide HTu).below hb2)
        have HX2 := VU.hide ((VU.unhide HX1).trans (hb2.mono (VU.unhide HX1).size))
        clear hTw hbl hb2 HTu HX1 HRw
        have HTt2 := VU.hide ((VU.unhide HU).1.below (VU.unhide HX2))
        gi_wp2_with fail
        refine (callsIn_wide.2 (VU.parts_any X2 _ bt vt vm vl _ (VU.unhide HTt2) (VK.low_le _ hlen))).mono ?_
        rintro e X3 ⟨a1, n1, c1, a2, n2, c2, a3, n3, c3, rfl, ⟨p1, p2, p3⟩, hb3⟩
        have HPA := VU.hide (show VU.PaAt X3 (X2.heap.size + 1) (.slice a1 n1 c1) (.slice a2 n2 c2) (.slice a3 n3 c3) vs from ⟨p1, p2, p3, hlen⟩)
        have HTu3 := VU.hide ((VU.unhide HTu2).below hb3)
        have HTw3 := VU.hide ((VU.unhide HTw).below hb3)
        have HTt3 := VU.hide ((VU.unhide HTt2).below hb3)
        have HX3 := VU.hide ((VU.unhide HX2).trans (hb3.mono (VU.unhide HX2).size))
        clear p1 p2 p3 hb3 HTu2 HTw HTt2 HX2
        gi_wp2_with fail
        refine (callsIn_wide.2 (VU.from_yes X3 _ _ _ _ vs (VU.unhide HPA) (fun x hx => trieTurns.okB (VU.unhide HSM x hx).1 (VU.unhide HSM x hx).2))).mono ?_
        rintro e X4 ⟨xb, xt, xm, xl, rfl, hTx, hb4⟩
        have HTx := VU.hide hTx
        have HTu4 := VU.hide ((VU.unhide HTu3).below hb4)
        have HTw4 := VU.hide ((VU.unhide HTw3).below hb4)
        have HTt4 := VU.hide ((VU.unhide HTt3).below hb4)
        have HX4 := VU.hide ((VU.unhide HX3).trans (hb4.mono (VU.unhide HX3).size))
        clear hTx hb4 HTu3 HTw3 HTt3 HX3 HPA
        gi_wp2_with fail
        refine callsIn_wide.2 (VU.map_any _ X4 _ bt vt vm vl vs (VU.unhide HTt4) _ _ (fun x => x) (trieTurns.same_ok X4 vs (VU.unhide HSM)) (VU.hide fun X5 yb yt ym yl hTy hb5 _ => ?_))
        rw [List.map_id'] at hTy
        have HTy := VU.hide hTy
        have HTx5 := VU.hide ((VU.unhide HTx).below hb5)
        have HTu5 := VU.hide ((VU.unhide HTu4).below hb5)
        have HTw5 := VU.hide ((VU.unhide HTw4).below hb5)
        have HTt5 := VU.hide ((VU.unhide HTt4).below hb5)
        have HX5 := VU.hide ((VU.unhide HX4).trans (hb5.mono (VU.unhide HX4).size))
        clear hTy hb5 HTx HTu4 HTw4 HTt4 HX4
        have hmf : ∀ (fn : Fn) (first cap : Array Value) (w : World), (Instr.makeFunc fn first cap).run Try.prog w = .ok (.func fn first cap) w := fun _ _ _ _ => rfl
        gi_wp2_with fail
        refine (callsIn_wide.2 (VU.fill_at X5 _ bt vt vm vl vs (VU.unhide HTt5) (fun x hx => trieTurns.okB (VU.unhide HSM x hx).1 (VU.unhide HSM x hx).2))).mono ?_
        rintro e X6 ⟨zb, zt, zm, zl, rfl, hTz, hb6⟩
        have HPT := VU.hide (fun (X : World) (hX : Below X6.heap.size X6 X) => (show VU.TrAt X _ bt vt vm vl vs ∧ VU.TrAt X _ ub ut um ul vs ∧ VU.TrAt X _ wb wt wm wl vs ∧ VU.TrAt X _ xb xt xm xl vs ∧ VU.TrAt X _ yb yt ym yl vs ∧ VU.TrAt X _ zb zt zm zl vs from
          ⟨((VU.unhide HTt5).below hb6).below hX, ((VU.unhide HTu5).below hb6).below hX, ((VU.unhide HTw5).below hb6).below hX, ((VU.unhide HTx5).below hb6).below hX, ((VU.unhide HTy).below hb6).below hX, hTz.below hX⟩))
        have HX6 := VU.hide ((VU.unhide HX5).trans (hb6.mono (VU.unhide HX5).size))
        clear hTz hb6 HTy HTx5 HTu5 HTw5 HTt5 HX5
        gi_wp2_with fail
        obtain ⟨X7, hX7⟩ : ∃ X7, X7 = X6.alloc (.cells #[.pointer (some ⟨ub, 0, none⟩), .pointer (some ⟨wb, 0, none⟩), .pointer (some ⟨xb, 0, none⟩), .pointer (some ⟨yb, 0, none⟩), .pointer (some ⟨zb, 0, none⟩)] 29) := ⟨_, rfl⟩
        have hb7 : Below X6.heap.size X6 X7 := by rw [hX7]; exact (Below.refl _ X6).alloc (Nat.le_refl _) _
        have h7 : X7.heap[X6.heap.size]? = some (.cells #[.pointer (some ⟨ub, 0, none⟩), .pointer (some ⟨wb, 0, none⟩), .pointer (some ⟨xb, 0, none⟩), .pointer (some ⟨yb, 0, none⟩), .pointer (some ⟨zb, 0, none⟩)] 29 (0, 0)) := by rw [hX7]; exact World.alloc_heap_new X6 _
        rw [← hX7]
        have HC7 := VU.hide (fun (X : World) (hX : Below X7.heap.size X7 X) (i : Nat) (hi : i < 5) => (show ∃ B b u1 u2 u3, X.cell? ⟨X6.heap.size, i, none⟩ = some (.pointer (some ⟨b, 0, none⟩)) ∧ VU.TrAt X B b u1 u2 u3 vs ∧ ∃ B', VU.TrAt X B' bt vt vm vl vs by
          obtain ⟨k0, k1, k2, k3, k4, k5⟩ := VU.unhide HPT X (hb7.trans (hX.mono hb7.size))
          have h := (hX.block _ (Array.getElem?_eq_some_iff.1 h7).1).trans h7
          rcases i with _ | _ | _ | _ | _ | i
          · exact ⟨_, _, _, _, _, by simp [World.cell?, h], k1, _, k0⟩
          · exact ⟨_, _, _, _, _, by simp [World.cell?, h], k2, _, k0⟩
          · exact ⟨_, _, _, _, _, by simp [World.cell?, h], k3, _, k0⟩
          · exact ⟨_, _, _, _, _, by simp [World.cell?, h], k4, _, k0⟩
          · exact ⟨_, _, _, _, _, by simp [World.cell?, h], k5, _, k0⟩
          · omega))
        have HX7 := VU.hide ((VU.unhide HX6).trans (hb7.mono (VU.unhide HX6).size))
        clear hX7 hb7 h7 HPT
        gi_loopw [107] (fun v107 wq => ∃ i : Nat, v107 = .int .i64 (i : Int) ∧ i ≤ 5 ∧ Hid (Below X7.heap.size X7 wq)) (fun v107 _ => 6 - (RowKit.intOf v107).toNat)
        case atStart => exact ⟨0, rfl, Nat.zero_le _, VU.hide (Below.refl _ _)⟩
        case round =>
          obtain ⟨i, rfl, hi, HQ⟩ := hrel
          rcases Nat.lt_or_ge i 5 with hlt | hge
          · have q1 : (i : Int) < 5 := by omega
            have q2 : IntKind.i64.wrap ((i : Int) + 1) = (i : Int) + 1 := by rw [IntKind.wrap_i64]; omega
            obtain ⟨B, b, u1, u2, u3, ci, hTa, B', hTt⟩ := VU.unhide HC7 _ (VU.unhide HQ) i hlt
            have HTa := VU.hide hTa
            have HTt := VU.hide hTt
            clear hTa hTt
            gi_wp2_with fail
            refine (callsIn_wide.2 (VU.same_yes wr _ _ _ _ _ _ _ _ _ _ _ _ (VU.unhide HTt) (VU.unhide HTa) rfl)).mono ?_
            rintro e Y1 ⟨rfl, hb1⟩
            have HTa1 := VU.hide ((VU.unhide HTa).below hb1)
            have HTt1 := VU.hide ((VU.unhide HTt).below hb1)
            have HQ1 := VU.hide ((VU.unhide HQ).trans (hb1.mono (VU.unhide HQ).size))
            clear hb1 HTa HTt
            gi_wp2_with fail
            refine (callsIn_wide.2 (VU.same_yes Y1 _ _ _ _ _ _ _ _ _ _ _ _ (VU.unhide HTa1) (VU.unhide HTt1) rfl)).mono ?_
            rintro e Y2 ⟨rfl, hb2⟩
            have HTa2 := VU.hide ((VU.unhide HTa1).below hb2)
            have HTt2 := VU.hide ((VU.unhide HTt1).below hb2)
            have HQ2 := VU.hide ((VU.unhide HQ1).trans (hb2.mono (VU.unhide HQ1).size))
            clear hb2 HTa1 HTt1 HQ1
            gi_wp2_with fail
            refine (callsIn_wide.2 (VU.parts_any Y2 _ b u1 u2 u3 _ (VU.unhide HTa2) (VK.low_le _ hlen))).mono ?_
            rintro e Y3 ⟨a1, n1, c1, a2, n2, c2, a3, n3, c3, rfl, ⟨p1, p2, p3⟩, hb3⟩
            have HTt3 := VU.hide ((VU.unhide HTt2).below hb3)
            have HQ3 := VU.hide ((VU.unhide HQ2).trans (hb3.mono (VU.unhide HQ2).size))
            have HP3 := VU.hide (And.intro p1 (And.intro p2 p3))
            clear hb3 HTt2 HTa2 HQ2 p1 p2 p3
            gi_wp2_with fail
            refine (callsIn_wide.2 (VU.parts_any Y3 _ bt vt vm vl _ (VU.unhide HTt3) (VK.low_le _ hlen))).mono ?_
            rintro e Y4 ⟨b1, m1, d1, b2, m2, d2, b3, m3, d3, rfl, ⟨r1, r2, r3⟩, hb4⟩
            have HQ4 := VU.hide ((VU.unhide HQ3).trans (hb4.mono (VU.unhide HQ3).size))
            obtain ⟨p1, p2, p3⟩ := VU.unhide HP3
            have hlt' := top_len vs
            have hlm' := mid_len vs
            have hll' := low_len vs
            have hm' := mids_le vs
            have hl' := lows_le vs
            rw [hlen] at hlt' hm' hl'
            have HPS := VU.hide (VU.parts_same Y4 _ _ _ _ _ _ _ _ _ _ _ (p1.below hb4) (p2.below hb4) (p3.below hb4) r1 r2 r3 (by rw [List.length_map]; omega) (by rw [List.length_map]; omega) (by omega))
            clear hb4 HTt3 HQ3 HP3 p1 p2 p3 r1 r2 r3 hlt' hlm' hll' hm' hl'
            gi_wp2_with fail
            refine (callsIn_wide.2 (VU.unhide HPS)).mono ?_
            rintro e Y5 ⟨rfl, hb5⟩
            have HQ5 := VU.hide ((VU.unhide HQ4).trans (hb5.mono (VU.unhide HQ4).size))
            clear hb5 HPS HQ4
            gi_wp2
            go_roundw
            case rel => exact ⟨i + 1, by simp, by omega, HQ5⟩
            case measure => simp [RowKit.intOf]; omega
          · obtain rfl : i = 5 := by omega
            gi_wp2_with fail
            refine (callsIn_wide.2 (VU.unhide HAW wr)).mono ?_
            rintro e Y1 ⟨rfl, hb1⟩
            have hbY := (VU.unhide HX7).trans (((VU.unhide HQ).trans (hb1.mono (VU.unhide HQ).size)).mono (VU.unhide HX7).size)
            have HY := VU.hide hbY
            clear hb1 hbY
            gi_wp2
            have hK := (VU.unhide HU).2.2.2.2.2.1
            have hKY := ((VU.unhide HY).block _ (Array.getElem?_eq_some_iff.1 hK).1).trans hK
            refine ⟨by simp, .inl ⟨_, _, rfl, run_takeDeferred hKY, ?_⟩⟩
            refine ⟨_, results_tmp rfl _ _ _, rfl, ?_⟩
            have hBU := (VU.unhide HU).2.2.2.2.1
            exact below_put (hBU.trans ((VU.unhide HY).mono hBU.size)) (VU.unhide HU).2.2.2.2.2.2 _
      · have hjn : j < ps.length := by omega
        obtain ⟨p, hp⟩ : ∃ p, ps[j]? = some p := ⟨_, List.getElem?_eq_getElem hjn⟩
        have e1 : (((j + 1 : Nat) : Int) - 1) = (j : Int) := by omega
        rw [e1]
        have d1 : decide ((0 : Int) ≤ (j : Int)) = true := decide_eq_true (by omega)
        have q1 : IntKind.i64.wrap ((j : Int) - 1) = (j : Int) - 1 := by rw [IntKind.wrap_i64]; omega
        have q2 : (j : Int) < (n : Int) := by omega
        have hR := VU.unhide HR
        obtain ⟨g, off, rfl, hg, x0, x1, x2⟩ := ((VU.unhide HU).2.1.below hR.2).get hp
        have hrow2 : RowP (wr.alloc (.cells #[.int .i32 p.lo, .int .i32 p.hi, .int .u8 p.val] 72)) U.heap.size (.slice s1 m s3) (ps.reverse.take m) := hR.1.below ((Below.refl _ wr).alloc (Nat.le_refl _) _)
        have HAPP := VU.hide (VK.append_x U.heap.size wr.heap.size (.slice s1 m s3) (ps.reverse.take m) p (wr.alloc (.cells #[.int .i32 p.lo, .int .i32 p.hi, .int .u8 p.val] 72)) (by have := hR.2.size; simp; omega) hrow2 (World.alloc_heap_new wr _) (by rw [List.length_take]; omega))
        have htk : ps.reverse.take m ++ [p] = ps.reverse.take (m + 1) := by
          have := take_rev hjn hp
          rw [hnn, show n - (j + 1) = m by omega, show n - j = m + 1 by omega] at this
          exact this
        have HTK := VU.hide (And.intro htk (And.intro hR.1 hR.2))
        clear hR hrow2 htk hp hg e1
        gi_wp2_with (gi_at_builtin; refine wpListIn_appendT rfl _ _ _ _ rfl _ _ rfl rfl (VU.unhide HAPP) ?_; rintro s5 w5 ⟨hX, hgr⟩; have HX := VU.hide (And.intro hX hgr); obtain ⟨u1, u2, u3, rfl⟩ : ∃ a m c, s5 = .slice a m c := (by obtain ⟨a, c, e, _⟩ := hX.form; exact ⟨a, _, c, e⟩); clear hX hgr)
        go_roundw
        case rel =>
          obtain ⟨hX, hgr⟩ := VU.unhide HX
          obtain ⟨htk, hr1, hr2⟩ := VU.unhide HTK
          rw [htk] at hX
          have hu2 : u2 = m + 1 := by
            have := (row_sp hX).1
            rw [List.length_take, List.length_reverse, hnn] at this
            omega
          subst hu2
          refine ⟨j, m + 1, u1, u3, rfl, rfl, by omega, VU.hide ⟨hX, ?_⟩⟩
          have hb := hr2.alloc hr2.size (.cells #[.int .i32 p.lo, .int .i32 p.hi, .int .u8 p.val] 72)
          exact hb.grown hgr hb.size (fun k hk => (hr1.lt k hk).1)
        case measure => simp [RowKit.intOf]
end Go.Proofs.Ytokillomaemocaa.trieBack
