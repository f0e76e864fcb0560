/-
  turned: the values of a uint8's trie, turned by a function, laid into a new trie.
-/
import Derived.Test.YtokillomaemocaaTrQq
import Derived.Test.YtokillomaemocaaTrPBU
import Derived.Test.YtokillomaemocaaTrTrU
import Derived.Test.YtokillomaemocaaTrQs
import Derived.Test.YtokillomaemocaaPStepI
namespace Go.Proofs.Ytokillomaemocaa.VU
open Go.RowKit Go.PlainAid Go.Lib Go.PRow Go.Maps Go.TrM Go.SeqM
attribute [local go_sem] Oper.semAt_some
set_option linter.unusedVariables false
set_option linter.unusedSimpArgs false
/-- a function value that answers φ of each of these values, and leaves what lies there -/
def FnOk (w : World) (k : Nat) (caps : Array Value) (φ : VU.El → El) (vs : List VU.El) : Prop :=
  (∀ args W, (callFunc k args).run Try.prog W = .ok (.enter k args) W) ∧ ∀ x ∈ vs, okE (φ x) ∧ ∀ W, Below w.heap.size w W → Calls Try.prog k (#[VU.enc x] ++ caps) W fun e W' => e = .returned (enc (φ x)) ∧ Below W.heap.size W W'
theorem rowE_cells {W : World} {B : Nat} {v : Value} {xs : List El} (h : RowE W B v xs) {g : Nat} (hg : blk v = some g) : ∃ cur, W.heap[g]? = some (.cells cur 5 (0, 0)) := by
  rcases h.2 with ⟨a, rfl, _⟩ | ⟨g', cap, cur, rfl, _, hh, _⟩
  · rw [blk_zero] at hg; cases hg
  · cases cap with
    | zero => rw [blk_zero] at hg; cases hg
    | succ c => cases hg; exact ⟨_, hh⟩
theorem rowWE_cells {W : World} {B : Nat} {v : Value} {xs : List Int} (h : VW.RowE W B v xs) {g : Nat} (hg : blk v = some g) : ∃ cur, W.heap[g]? = some (.cells cur 34 (0, 0)) := by
  rcases h.2 with ⟨a, rfl, _⟩ | ⟨g', cap, cur, rfl, _, hh, _⟩
  · rw [blk_zero] at hg; cases hg
  · cases cap with
    | zero => rw [blk_zero] at hg; cases hg
    | succ c => cases hg; exact ⟨_, hh⟩
/-- what a maker owns is cells, but for its map -/
theorem MakAt.cells {w : World} {B mk bn m : Nat} {v vl vb : Value} {bs : List (List El)} {ls : List Int} {xs : List El} (h : MakAt w B mk bn m v vl vb bs ls xs) {i : Nat} (o : Own mk bn m v vl vb i) : i = m ∨ ∃ ob : Obj, w.heap[i]? = some ob ∧ ob.isCells = true := by
  rcases o with rfl | rfl | rfl | e | e | e
  · exact .inr ⟨_, h.hk, rfl⟩
  · exact .inr ⟨_, h.hn.hn, rfl⟩
  · exact .inl rfl
  · obtain ⟨c, hc⟩ := rowE_cells h.hn.hv e; exact .inr ⟨_, hc, rfl⟩
  · obtain ⟨c, hc⟩ := rowWE_cells h.hl e; exact .inr ⟨_, hc, rfl⟩
  · obtain ⟨c, hc⟩ := rowE_cells h.hb e; exact .inr ⟨_, hc, rfl⟩
/-- turned's own memory while it goes: n0 where it began, n1 where the maker was whole -/
structure TuAt (w V : World) (n1 mk bn m : Nat) (vb vt vm vl fv : Value) (xs : List El) : Prop where
  bel : Below w.heap.size w V
  sz : n1 + 4 ≤ V.heap.size
  p : V.heap[w.heap.size]? = some (.cells #[vt, vm, vl] 27 (0, 0))
  f : V.heap[w.heap.size + 1]? = some (.cells #[fv] 51 (0, 0))
  b : V.heap[n1]? = some (.cells #[.pointer (some ⟨mk, 0, none⟩)] 97 (0, 0))
  g : ∃ M, V.heap[n1 + 1]? = some (.cells M 5 (0, 0)) ∧ M.size = 64
  s : V.heap[n1 + 2]? = some (.cells #[.slice (some ⟨n1 + 1, 0, none⟩) 64 64] 25 (0, 0))
  r : V.heap[n1 + 3]? = some (.cells #[vt, vm, vl] 27 (0, 0))
  mak : ∃ v ul, MakAt V (w.heap.size + 2) mk bn m v ul vb (whole xs).1 ((whole xs).2.map Int.ofNat) (restB xs) ∧ ∀ i, Own mk bn m v ul vb i → i < n1 ∨ n1 + 4 ≤ i
  ok : ∀ x ∈ xs, okE x
  hm : m < n1
  hn : w.heap.size + 2 ≤ n1
theorem TuAt.own {w V V' : World} {n1 mk bn m : Nat} {vb vt vm vl fv : Value} {xs : List El} (h : TuAt w V n1 mk bn m vb vt vm vl fv xs) {row : Option Nat} {C : Nat} (hC : n1 ≤ C) (hg : V.grownBy V' row) (hr : ∀ r, row = some r → C ≤ r ∧ ∃ o : Obj, V.heap[r]? = some o ∧ o.isCells = false) : TuAt w V' n1 mk bn m vb vt vm vl fv xs := by
  have hk : ∀ {i : Nat} {ob : Obj}, V.heap[i]? = some ob → ob.isCells = true → V'.heap[i]? = some ob := fun hi hc => (grownBy_keeps_cells hg (fun r e => (hr r e).2) hi hc).trans hi
  obtain ⟨M, hM, hMs⟩ := h.g
  obtain ⟨v, ul, hA, hO⟩ := h.mak
  refine ⟨h.bel.grown hg (by have := h.bel.size; omega) (fun k hk => by have := (hr k hk).1; have := h.hn; omega), Nat.le_trans h.sz hg.size, hk h.p rfl, hk h.f rfl, hk h.b rfl, ⟨M, hk hM rfl, hMs⟩, hk h.s rfl, hk h.r rfl, ⟨v, ul, hA.keep fun i hi => ?_, hO⟩, h.ok, h.hm, h.hn⟩
  rcases hA.cells hi with rfl | ⟨ob, ho, hc⟩
  · exact hg.block i (hA.own hi).2 (fun e => by have := (hr i e.symm).1; have := h.hm; omega)
  · exact (hk ho hc).trans ho.symm
theorem TuAt.below {w V V' : World} {n1 mk bn m : Nat} {vb vt vm vl fv : Value} {xs : List El} (h : TuAt w V n1 mk bn m vb vt vm vl fv xs) (hb : Below V.heap.size V V') : TuAt w V' n1 mk bn m vb vt vm vl fv xs := by
  have hk : ∀ {i : Nat} {ob : Obj}, V.heap[i]? = some ob → V'.heap[i]? = some ob := fun hi => (hb.block _ (Array.getElem?_eq_some_iff.1 hi).1).trans hi
  obtain ⟨M, hM, hMs⟩ := h.g
  obtain ⟨v, ul, hA, hO⟩ := h.mak
  exact ⟨h.bel.trans (hb.mono h.bel.size), Nat.le_trans h.sz hb.size, hk h.p, hk h.f, hk h.b, ⟨M, hk hM, hMs⟩, hk h.s, hk h.r, ⟨v, ul, hA.below hb, hO⟩, h.ok, h.hm, h.hn⟩
/-- within a round: so many values of the block are written -/
structure InAt (w V X : World) (n1 mk bn m : Nat) (vb vt vm vl fv : Value) (xs : List El) (b : List El) (i : Nat) : Prop where
  tu : TuAt w X n1 mk bn m vb vt vm vl fv xs
  sz : V.heap.size ≤ X.heap.size
  kp : ∀ q, q < V.heap.size → q ≠ n1 + 1 → X.heap[q]? = V.heap[q]?
  wr : ∃ M, X.heap[n1 + 1]? = some (.cells M 5 (0, 0)) ∧ M.size = 64 ∧ ∀ j, j < i → ∀ y, b[j]? = some y → M[j]? = some (enc y)
theorem InAt.below {w V X X' : World} {n1 mk bn m : Nat} {vb vt vm vl fv : Value} {xs b : List El} {i : Nat} (h : InAt w V X n1 mk bn m vb vt vm vl fv xs b i) (hb : Below X.heap.size X X') : InAt w V X' n1 mk bn m vb vt vm vl fv xs b i := by
  obtain ⟨M, hM, hMs⟩ := h.wr
  exact ⟨h.tu.below hb, Nat.le_trans h.sz hb.size, fun q hq hne => (hb.block q (Nat.lt_of_lt_of_le hq h.sz)).trans (h.kp q hq hne), ⟨M, (hb.block _ (Array.getElem?_eq_some_iff.1 hM).1).trans hM, hMs⟩⟩
theorem InAt.store {w V X : World} {n1 mk bn m : Nat} {vb vt vm vl fv : Value} {xs b : List El} {i : Nat} (h : InAt w V X n1 mk bn m vb vt vm vl fv xs b i) (y : El) (hy : b[i]? = some y) (hi : i < 64) : InAt w V (X.setCell ⟨n1 + 1, i, none⟩ (enc y)) n1 mk bn m vb vt vm vl fv xs b (i + 1) := by
  obtain ⟨M, hM, hMs, hMj⟩ := h.wr
  have hg : (X.setCell ⟨n1 + 1, i, none⟩ (enc y)).heap[n1 + 1]? = some (.cells (M.setIfInBounds i (enc y)) 5 (0, 0)) := by
    simp only [World.setCell, Array.getElem?_modify, if_true, hM, Option.map_some]
    rfl
  have hne : ∀ q, q ≠ n1 + 1 → (X.setCell ⟨n1 + 1, i, none⟩ (enc y)).heap[q]? = X.heap[q]? := fun q hq => set_ne hq
  have hk : ∀ {q : Nat} {ob : Obj}, q ≠ n1 + 1 → X.heap[q]? = some ob → (X.setCell ⟨n1 + 1, i, none⟩ (enc y)).heap[q]? = some ob := fun hq ho => (hne _ hq).trans ho
  have hT := h.tu
  have hn := hT.hn
  obtain ⟨v, ul, hA, hO⟩ := hT.mak
  refine ⟨⟨hT.bel.setCell (by simp only; omega) _, by rw [World.size_setCell]; exact hT.sz, hk (by omega) hT.p, hk (by omega) hT.f, hk (by omega) hT.b, ⟨_, hg, by simpa using hMs⟩, hk (by omega) hT.s, hk (by omega) hT.r, ⟨v, ul, hA.keep fun q hq => hne q (by have := hO q hq; omega), hO⟩, hT.ok, hT.hm, hT.hn⟩, by rw [World.size_setCell]; exact h.sz, fun q hq hq2 => (hne q hq2).trans (h.kp q hq hq2), ⟨_, hg, by simpa using hMs, fun j hj z hz => ?_⟩⟩
  by_cases e : j = i
  · subst e
    rw [hy] at hz
    cases hz
    simp [hMs, hi]
  · rw [Array.getElem?_setIfInBounds_ne (fun e' => e e'.symm)]
    exact hMj j (by omega) z hz
/-- a block put so many times, told of a maker whose own parts are named -/
theorem put_valsM (w : World) (B mk bn m : Nat) (v vl vb : Value) (vs : List El) (hM : MakAt w B mk bn m v vl vb (whole vs).1 ((whole vs).2.map Int.ofNat) (restB vs)) (hv : vs.length % 64 = 0) (g off c : Nat) (b : List El) (hb : OkB b) (hc : ∀ j x, b[j]? = some x → w.cell? ⟨g, off + j, none⟩ = some (enc x)) (hg : blk v ≠ some g) (n : Nat) (hn : 0 < n) (hl : vs.length + 64 * n ≤ 1114112) :
    Calls Try.prog 91 #[.pointer (some ⟨mk, 0, none⟩), .slice (some ⟨g, off, none⟩) 64 c, .int .i64 n] w fun e w' => e = .returned (.tuple #[]) ∧ ∃ v' vl', MakAt w' B mk bn m v' vl' vb (whole (vs ++ (List.replicate n b).flatten)).1 ((whole (vs ++ (List.replicate n b).flatten)).2.map Int.ofNat) (restB (vs ++ (List.replicate n b).flatten)) ∧ MakK w w' (Own mk bn m v vl vb) (Own mk bn m v' vl' vb) ∧ Below B w w' := by
  obtain ⟨e1, e2, e3⟩ := put_blocks (n := n) hv hb.1 hn
  have hr : restB vs = [] := by unfold restB; rw [List.drop_eq_nil_iff]; omega
  refine (put_any w B mk bn m v vl vb _ _ _ hM g off c b hb hc hg n ?_ ?_).mono ?_
  · have := whole_le vs; omega
  · rw [List.length_map, whole_len]; omega
  · rintro e w' ⟨rfl, v', vl', h1, h2, h3⟩
    refine ⟨rfl, v', vl', ?_, h2, h3⟩
    rw [e1, e2]
    rw [hr] at h1
    simp only [List.map_append, List.map_replicate]
    exact h1
theorem TrAt.ownX {B bt : Nat} {vt vm vl : Value} {vs : List El} {w w' : World} {row : Option Nat} (h : TrAt w B bt vt vm vl vs) (hg : w.grownBy w' row) (hr : ∀ r, row = some r → ∃ o : Obj, w.heap[r]? = some o ∧ o.isCells = false) : TrAt w' B bt vt vm vl vs := by
  have hk : ∀ {i : Nat} {ob : Obj}, w.heap[i]? = some ob → ob.isCells = true → w'.heap[i]? = some ob := fun hi hc => (grownBy_keeps_cells hg hr hi hc).trans hi
  refine ⟨hk h.ht rfl, h.rt.kept fun g hg => ?_, h.rm.kept fun g hg => ?_, h.rl.kept fun g hg => ?_, h.len⟩
  · obtain ⟨cur, hc⟩ := rowWE_cells h.rt hg
    exact (hk hc rfl).trans hc.symm
  · obtain ⟨cur, hc⟩ := rowWE_cells h.rm hg
    exact (hk hc rfl).trans hc.symm
  · obtain ⟨cur, hc⟩ := rowE_cells h.rl hg
    exact (hk hc rfl).trans hc.symm
theorem TrAt.lower {w : World} {B C bt : Nat} {vt vm vl : Value} {vs : List El} (h : TrAt w B bt vt vm vl vs) (hc : C ≤ B) : TrAt w C bt vt vm vl vs :=
  ⟨h.ht, VW.RowE.mono h.rt hc, VW.RowE.mono h.rm hc, RowE.mono h.rl hc, h.len⟩
/-- one pair further: the block is put -/
theorem TuAt.put {w V X W : World} {n1 mk bn m : Nat} {vb vt vm vl fv : Value} {xs b ys : List El} {v ul v' ul' : Value} (h : InAt w V X n1 mk bn m vb vt vm vl fv xs b 64) (hO : ∀ i, Own mk bn m v ul vb i → i < n1 ∨ n1 + 4 ≤ i) (hA : MakAt X (w.heap.size + 2) mk bn m v ul vb (whole xs).1 ((whole xs).2.map Int.ofNat) (restB xs))
    (hW : MakAt W (w.heap.size + 2) mk bn m v' ul' vb (whole ys).1 ((whole ys).2.map Int.ofNat) (restB ys)) (hk : MakK X W (Own mk bn m v ul vb) (Own mk bn m v' ul' vb)) (hB : Below (w.heap.size + 2) X W) (hy : ∀ y ∈ ys, okE y) : TuAt w W n1 mk bn m vb vt vm vl fv ys := by
  have hT := h.tu
  have hn := hT.hn
  have hs := hT.sz
  have hx : ∀ {q : Nat} {ob : Obj}, n1 ≤ q → q < n1 + 4 → X.heap[q]? = some ob → W.heap[q]? = some ob := fun h1 h2 ho => (hk.keep _ (by omega) (fun o => by have := hO _ o; omega)).trans ho
  obtain ⟨M, hM, hMs⟩ := hT.g
  exact ⟨hT.bel.trans (hB.mono (by omega)), Nat.le_trans hs hk.size, (hB.block _ (by omega)).trans hT.p, (hB.block _ (by omega)).trans hT.f, hx (Nat.le_refl _) (by omega) hT.b, ⟨M, hx (by omega) (by omega) hM, hMs⟩, hx (by omega) (by omega) hT.s, hx (by omega) (by omega) hT.r,
    ⟨v', ul', hW, fun i hi => by rcases hk.own i hi with e | e; exact hO i e; exact .inr (by omega)⟩, hy, hT.hm, hT.hn⟩
set_option maxRecDepth 100000 in
set_option maxHeartbeats 4000000 in
theorem turned_any (Q : Ending → World → Prop) (w : World) (B0 : Nat) (vt vm vl : Value) (vs : List VU.El) (hP : VU.PaAt w B0 vt vm vl vs) (k : Nat) (caps : Array Value) (φ : VU.El → El) (hf : FnOk w k caps φ vs)
    (hQ : Hid (∀ w' bt ut um ul, TrAt w' w.heap.size bt ut um ul (vs.map φ) → Below w.heap.size w w' → w.heap.size ≤ bt → Q (.returned (.pointer (some ⟨bt, 0, none⟩))) w')) :
    Calls Try.prog 56 #[.agg #[vt, vm, vl], .func (.func k) #[] caps] w Q := by
  obtain ⟨M2, hM2, hmk2⟩ := make_row 64 64 (by omega) (by omega)
  have hk2 : ∀ W : World, (Instr.makeSlice 25 (.int .i64 64) (.int .i64 64)).run Try.prog W = .ok (.slice (some ⟨W.heap.size, 0, none⟩) 64 64) (W.alloc (.cells M2 5)) := hmk2
  clear hmk2
  have hF : ∀ f, Fence.wide.fn f := fun _ => trivial
  refine (callsIn_wide (n := 16)).1 ?_
  refine callsIn_of_wp_marks Try.func56 rfl trivial ?_ rfl
  simp only [Try.ntmps56, List.size_toArray, List.length_cons, List.length_nil, Nat.reduceAdd, Nat.reduceSub, Array.replicate_succ, Array.replicate_zero, List.push_toArray, List.append_toArray, List.nil_append, List.cons_append]
  gi_wp2_with fail
  refine callsIn_wide.2 (newMaker_any _ _ (hide fun w1 mk o hM hB1 => ?_))
  have HH := hide (And.intro hM hB1)
  clear hM hB1
  have hs1 : w.heap.size + 2 ≤ w1.heap.size := by have := (unhide HH).2.size; simpa using this
  have hbp : w1.heap[w.heap.size]? = some (.cells #[vt, vm, vl] 27 (0, 0)) := heap_be (unhide HH).2 (by simp; omega) (heap_al (heap_at (w := w) _ _ rfl) _)
  have hbf : w1.heap[w.heap.size + 1]? = some (.cells #[.func (.func k) #[] caps] 51 (0, 0)) := heap_be (unhide HH).2 (by simp) (heap_at (w := w.alloc _) _ _ (by simp))
  have hBe : Below w.heap.size w w1 := ((((Below.refl _ w).alloc (Nat.le_refl _) _).alloc (by simp) _).trans ((unhide HH).2.mono (by simp; omega)))
  have f3 : ∀ o1 o2 o3 : Obj, (((w1.alloc o1).alloc o2).alloc o3).cell? ⟨w.heap.size, 0, none⟩ = some vt ∧ (((w1.alloc o1).alloc o2).alloc o3).cell? ⟨w.heap.size, 1, none⟩ = some vm ∧ (((w1.alloc o1).alloc o2).alloc o3).cell? ⟨w.heap.size, 2, none⟩ = some vl := fun o1 o2 o3 => by
    have h := heap_al (heap_al (heap_al hbp o1) o2) o3
    exact cellT h
  have f30 := fun o1 o2 o3 => (f3 o1 o2 o3).1
  have f31 := fun o1 o2 o3 => (f3 o1 o2 o3).2.1
  have f32 := fun o1 o2 o3 => (f3 o1 o2 o3).2.2
  have HBX := hide (And.intro hbp (And.intro hbf (And.intro hBe hs1)))
  clear hbp hbf hBe hs1 f3
  gi_wp2_with fail
  refine CallsIn.mono (callsIn_wide.2 (VU.repeats_any _ vt vm vl)) ?_
  rintro e w2 ⟨rfl, hw2⟩
  have HW2 := hide hw2
  clear hw2 f30 f31 f32
  gi_wp2_with fail
  obtain ⟨hbp, hbf, hBe, hs1⟩ := unhide HBX
  obtain ⟨⟨bn, m, mv, ml, vb, rfl, hM, _⟩, hBn⟩ := unhide HH
  have hsz2 : w2.heap.size = w1.heap.size + 4 := by rw [unhide HW2]; simp
  have h12 : Below w1.heap.size w1 w2 := by rw [unhide HW2]; exact ((((Below.refl _ w1).alloc (Nat.le_refl _) _).alloc (by simp) _).alloc (by simp; omega) _).alloc (by simp; omega) _
  have hns : ((w.alloc (Obj.cells #[vt, vm, vl] 27)).alloc (Obj.cells #[Value.func (Fn.func k) #[] caps] 51)).heap.size = w.heap.size + 2 := by simp
  rw [hns] at hM
  have h0 : TuAt w w2 w1.heap.size mk bn m vb vt vm vl (.func (.func k) #[] caps) [] := by
    refine ⟨hBe.trans (h12.mono hBe.size), by omega, heap_be h12 (by omega) hbp, heap_be h12 (by omega) hbf, ?_, ⟨M2, ?_, hM2⟩, ?_, ?_, ⟨mv, ml, hM.below h12, fun i hi => .inl (hM.own hi).2⟩, (fun _ h => by cases h), (hM.hn.lt).2, hs1⟩
    · rw [unhide HW2]; exact heap_al (heap_al (heap_al (heap_at _ _ rfl) _) _) _
    · rw [unhide HW2]; exact heap_al (heap_al (heap_at _ _ (by simp)) _) _
    · rw [unhide HW2]; exact heap_al (heap_at _ _ (by simp)) _
    · rw [unhide HW2]; exact heap_at _ _ (by simp)
  have hP2 := hP.below (h0.bel.mono (Nat.le_refl _))
  have hr2 := h0.r
  clear HH HBX HW2 hM hBn hbp hbf hBe hns h12
  refine range4G (by omega) (gf := 122) (lb := #[.pointer (some ⟨w1.heap.size + 3, 0, none⟩)]) rfl (enters_of Try.func122 (by kernel_rfl) rfl)
    (VU.rep_gives B0 (w1.heap.size + 3) _ vt vm vl vs (by omega) w2 hP2 hr2) (Below.refl _ _) (fun _ => rfl)
    (fun pre V => TuAt w V w1.heap.size mk bn m vb vt vm vl (.func (.func k) #[] caps) (VU.laidT φ vs pre))
    (fun c pre V => False) ?own (fun c => own_pure _ _) (CalmR.none _ _ _) h0 (fun x => { tmps := #[.agg #[vt, vm, vl], .func (.func k) #[] caps, .pointer (some ⟨w.heap.size, 0, none⟩), .pointer (some ⟨w.heap.size + 1, 0, none⟩), .pointer none, .pointer (some ⟨w1.heap.size, 0, none⟩), .pointer (some ⟨w1.heap.size + 1 + 1, 0, none⟩), .int .i64 (x.1 : Int), .int .i64 (x.2 : Int), undef, .pointer (some ⟨mk, 0, none⟩), .slice (some ⟨w1.heap.size + 1, 0, none⟩) 64 64, .agg #[vt, vm, vl], .func (.func 122) #[] #[.pointer (some ⟨w1.heap.size + 1 + 1 + 1, 0, none⟩)], .int .i64 (x.1 : Int), .int .i64 (x.2 : Int), undef, undef, undef, undef, undef, undef, undef, undef, undef, undef, undef, undef, undef, undef, undef, undef, undef, undef, undef, undef, undef, undef, undef, undef, undef], defers := [] }) ?assign ?body ?done ?stop
  case own =>
    rintro pre W W' row h hg hr
    exact h.own (by omega) hg hr
  case assign =>
    intro l2 x V K hK
    simp only [VU.repE]
    gi_wp2
    exact hK
  case stop => rintro D c pre V _ _ h; exact h.elim
  case body =>
    rintro l2 pre x V hl2 hsz ⟨r, hr⟩ h ⟨kk, hkk, hpre⟩
    obtain ⟨hm64, hlen, hx2, s, hs, hxs⟩ := VU.laidT_step φ vs hP.len pre x kk hkk hpre
    have happ := VU.laidT_app φ vs pre x
    have hb64 := VU.lowB_len vs hP.len s hs
    have hbat := VU.lowB_at vs hP.len s hs
    rw [← hxs] at hb64 hbat
    obtain ⟨no, times⟩ := x
    simp only at hxs hx2 hlen happ hb64 hbat
    generalize hbl : VU.lowB vs no = bl at *
    generalize hxv : VU.laidT φ vs pre = xv at *
    have hno : no * 64 + 64 ≤ (partsV vs).low.length ∧ no < 17408 ∧ (partsV vs).low.length < 2000000 := by
      have h1 : 63 < bl.length := by omega
      have h2 := (List.getElem?_eq_some_iff.1 (hbat 63 _ (List.getElem?_eq_getElem h1)).1).1
      have h3 := low_len vs
      have h4 := lows_le vs
      rw [hP.len] at h4
      omega
    obtain ⟨gl, cl, rfl, hcell⟩ : ∃ gl cl, vl = .slice (some ⟨gl, 0, none⟩) (partsV vs).low.length cl ∧ ∀ X, Below w.heap.size w X → ∀ i y, bl[i]? = some y → X.cell? ⟨gl, no * 64 + i, none⟩ = some (VU.enc y) := by
      obtain ⟨gl, cl, _, e, _⟩ := hP.rl.block (fun e => by rw [e] at hno; simp at hno)
      refine ⟨gl, cl, e, fun X hX i y hy => ?_⟩
      obtain ⟨g', c', e', _, _, hc⟩ := hP.rl.cell (hbat i y hy).1
      rw [e] at e'
      injection e' with e1 e2 e3
      injection e1 with e1
      injection e1 with e1
      subst e1
      exact (hX.cell (World.block_lt_of_cell? _ _ hc)).trans hc
    have c16 : V.cell? ⟨w1.heap.size + 1 + 1, 0, none⟩ = some (.slice (some ⟨w1.heap.size + 1, 0, none⟩) 64 64) := by
      have := h.s
      show V.cell? ⟨w1.heap.size + 2, 0, none⟩ = _
      simp [World.cell?, this]
    have HCELL := hide hcell
    have HXS := hide hxs
    have HNO := hide hno
    obtain ⟨hno1, hno2, hno3⟩ := hno
    clear hcell hxs
    have HEG := hide hf.1
    have HT := hide h
    have HE := hide (And.intro hm64 (And.intro hlen (And.intro hx2 (And.intro happ (And.intro hb64 hbat)))))
    clear h hm64 hlen hx2 happ hb64 hbat h0 hP2 hr2
    gi_wp2_with fail
    gi_loopw [18] (fun v18 wr => ∃ i : Nat, v18 = .int .i64 (i : Int) ∧ i ≤ 64 ∧ Hid (InAt w V wr w1.heap.size mk bn m vb vt vm (.slice (some ⟨gl, 0, none⟩) (partsV vs).low.length cl) (.func (.func k) #[] caps) xv (bl.map φ) i))
      (fun v18 _ => 64 - (RowKit.intOf v18).toNat)
    case atStart =>
      obtain ⟨M, hM, hMs⟩ := (unhide HT).g
      exact ⟨0, rfl, Nat.zero_le _, hide ⟨unhide HT, Nat.le_refl _, fun _ _ _ => rfl, ⟨M, hM, hMs, fun j hj => by omega⟩⟩⟩
    case round =>
      obtain ⟨i, rfl, hi, HR⟩ := hrel
      rcases Nat.lt_or_ge i 64 with hlt | hge
      · have d1 : decide ((i : Int) < 64) = true := decide_eq_true (by omega)
        gi_wp2_with fail
        have hbk : i < bl.length := by rw [(unhide HE).2.2.2.2.1]; exact hlt
        obtain ⟨y, hy⟩ : ∃ y, bl[i]? = some y := ⟨_, List.getElem?_eq_getElem hbk⟩
        have hyv : y ∈ vs := ((unhide HE).2.2.2.2.2 i y hy).2.2
        have hR := unhide HR
        have hbw : ∀ X, Below wr.heap.size wr X → Below w.heap.size w X := fun X hX => hR.tu.bel.trans (hX.mono hR.tu.bel.size)
        have G21 := hide (fun X (hX : Below wr.heap.size wr X) => (show X.cell? ⟨w1.heap.size + 1 + 1, 0, none⟩ = some (.slice (some ⟨w1.heap.size + 1, 0, none⟩) 64 64) by
          have := (hR.below hX).tu.s
          show X.cell? ⟨w1.heap.size + 2, 0, none⟩ = _
          simp [World.cell?, this]))
        have G23 := hide (fun X (hX : Below wr.heap.size wr X) => (show X.cell? ⟨w.heap.size + 1, 0, none⟩ = some (.func (.func k) #[] caps) by
          have := (hR.below hX).tu.f
          simp [World.cell?, this]))
        have G25 := hide (fun X (hX : Below wr.heap.size wr X) => (show X.cell? ⟨w.heap.size, 2, none⟩ = some (.slice (some ⟨gl, 0, none⟩) (partsV vs).low.length cl) by
          have := (hR.below hX).tu.p
          simp [World.cell?, this]))
        have G31 := hide (fun X (hX : Below wr.heap.size wr X) => unhide HCELL X (hbw X hX) i y hy)
        have HCL := hide (fun X (hX : Below wr.heap.size wr X) => (hf.2 y hyv).2 X (hbw X hX))
        have GST := hide (fun X (hX : Below wr.heap.size wr X) => (show ∃ z, X.cell? ⟨w1.heap.size + 1, i, none⟩ = some z ∧ X.frozen? ⟨w1.heap.size + 1, i, none⟩ = false by
          obtain ⟨M, hM, hMs⟩ := (hR.below hX).tu.g
          exact ⟨M[i], by simp [World.cell?, hM, hMs, hlt], by simp [World.frozen?, hM]⟩))
        obtain ⟨Fin, hFin⟩ : ∃ Fin : World → Prop, Fin = fun X => InAt w V X w1.heap.size mk bn m vb vt vm (.slice (some ⟨gl, 0, none⟩) (partsV vs).low.length cl) (.func (.func k) #[] caps) xv (bl.map φ) (i + 1) := ⟨_, rfl⟩
        have GFN := hide (fun X (hX : Below wr.heap.size wr X) => (show Fin (X.setCell ⟨w1.heap.size + 1, i, none⟩ (enc (φ y))) by
          rw [hFin]
          exact (hR.below hX).store (φ y) (by rw [List.getElem?_map, hy]; rfl) hlt))
        have HFin := hide hFin
        have QQ := hide (show IntKind.i64.wrap ((no : Int) * 64) = (no : Int) * 64 ∧ IntKind.i64.wrap ((no : Int) * 64 + (i : Int)) = (no : Int) * 64 + (i : Int) ∧ (no : Int) * 64 + (i : Int) < ((partsV vs).low.length : Int) ∧ (i : Int) < 64 by
          refine ⟨?_, ?_, ?_, ?_⟩
          · rw [IntKind.wrap_i64]; omega
          · rw [IntKind.wrap_i64]; omega
          · omega
          · omega)
        obtain ⟨Inv, hInv⟩ : ∃ Inv : (Nat → Bool) → Act → World → Prop, Inv = (fun D a' V' => ∃ x21 x22 x23 x24 x25 x26 x27 x28 x29 x30 x31 x32 x33 : Value, a' = { tmps := #[.agg #[vt, vm, .slice (some ⟨gl, 0, none⟩) (partsV vs).low.length cl], .func (.func k) #[] caps, .pointer (some ⟨w.heap.size, 0, none⟩), .pointer (some ⟨w.heap.size + 1, 0, none⟩), .pointer none, .pointer (some ⟨w1.heap.size, 0, none⟩), .pointer (some ⟨w1.heap.size + 1 + 1, 0, none⟩), .int .i64 (no : Int), .int .i64 (times : Int), .int .i64 (i : Int), .pointer (some ⟨mk, 0, none⟩), .slice (some ⟨w1.heap.size + 1, 0, none⟩) 64 64, .agg #[vt, vm, .slice (some ⟨gl, 0, none⟩) (partsV vs).low.length cl], .func (.func 122) #[] #[.pointer (some ⟨w1.heap.size + 1 + 1 + 1, 0, none⟩)], .int .i64 (no : Int), .int .i64 (times : Int), .slice (some ⟨w1.heap.size + 1, 0, none⟩) 64 64, .int .i64 64, .int .i64 (i : Int), .bool true, .int .i64 (i : Int), x21, x22, x23, x24, x25, x26, x27, x28, x29, x30, x31, x32, x33, u34, undef, undef, undef, undef, undef, undef], defers := [] } ∧ (D 0 = true → x21 = .slice (some ⟨w1.heap.size + 1, 0, none⟩) 64 64) ∧ (D 1 = true → x22 = .int .i64 (i : Int)) ∧ (D 2 = true → x23 = .func (.func k) #[] caps) ∧ (D 3 = true → x24 = .pointer (some ⟨w.heap.size, 2, none⟩)) ∧ (D 4 = true → x25 = .slice (some ⟨gl, 0, none⟩) (partsV vs).low.length cl) ∧ (D 5 = true → x26 = .int .i64 (no : Int)) ∧ (D 6 = true → x27 = .int .i64 ((no : Int) * 64)) ∧ (D 7 = true → x28 = .int .i64 (i : Int)) ∧ (D 8 = true → x29 = .int .i64 ((no : Int) * 64 + (i : Int))) ∧ (D 9 = true → x30 = .pointer (some ⟨gl, no * 64 + i, none⟩)) ∧ (D 10 = true → x31 = VU.enc y) ∧ (D 11 = true → x32 = enc (φ y)) ∧ (D 12 = true → x33 = .pointer (some ⟨w1.heap.size + 1, i, none⟩)) ∧ (D 13 = false → Below wr.heap.size wr V') ∧ (D 13 = true → Fin V')) := ⟨_, rfl⟩
        have HInv := hide hInv
        have hd1 := hide d1
        clear hInv hFin hR hbw d1
        refine RegInv.region Inv (by kernel_rfl) (by kernel_rfl) (by kernel_rfl) ?h0 ?hs ?he
        case h0 =>
          rw [unhide HInv]
          exact ⟨u21, u22, u23, u24, u25, u26, u27, u28, u29, u30, u31, u32, u33, rfl, (fun h => by cases h), (fun h => by cases h), (fun h => by cases h), (fun h => by cases h), (fun h => by cases h), (fun h => by cases h), (fun h => by cases h), (fun h => by cases h), (fun h => by cases h), (fun h => by cases h), (fun h => by cases h), (fun h => by cases h), (fun h => by cases h), fun _ => (Below.refl _ _).drew, fun h => by cases h⟩
        case hs =>
          refine ⟨?o0, ?o1, ?o2, ?o3, ?o4, ?o5, ?o6, ?o7, ?o8, ?o9, ?o10, ?o11, ?o12, ?o13, trivial⟩
          case o0 =>
            rintro D a' V' hn hd hdn hI
            rw [unhide HInv] at hI
            obtain ⟨x21, x22, x23, x24, x25, x26, x27, x28, x29, x30, x31, x32, x33, rfl, c0, c1, c2, c3, c4, c5, c6, c7, c8, c9, c10, c11, c12, cB, cF⟩ := hI
            have n13 : D 13 = false := by
              cases h9 : D 13 with
              | false => rfl
              | true =>
                have e0 := h9
                have e0 := hdn 13 _ rfl e0 12 (by decide)
                have e0 := hdn 12 _ rfl e0 0 (by decide)
                rw [hn] at e0; cases e0
            have hB := cB n13
            have g21 := unhide G21 V' hB
            gi_wp2
            show Inv _ _ _
            rw [unhide HInv]
            exact ⟨_, x22, x23, x24, x25, x26, x27, x28, x29, x30, x31, x32, x33, rfl, fun _ => rfl, fun h => c1 (by simpa using h), fun h => c2 (by simpa using h), fun h => c3 (by simpa using h), fun h => c4 (by simpa using h), fun h => c5 (by simpa using h), fun h => c6 (by simpa using h), fun h => c7 (by simpa using h), fun h => c8 (by simpa using h), fun h => c9 (by simpa using h), fun h => c10 (by simpa using h), fun h => c11 (by simpa using h), fun h => c12 (by simpa using h), fun h => hB, fun h => (by simp [n13] at h)⟩
          case o1 =>
            rintro D a' V' hn hd hdn hI
            rw [unhide HInv] at hI
            obtain ⟨x21, x22, x23, x24, x25, x26, x27, x28, x29, x30, x31, x32, x33, rfl, c0, c1, c2, c3, c4, c5, c6, c7, c8, c9, c10, c11, c12, cB, cF⟩ := hI
            have n13 : D 13 = false := by
              cases h9 : D 13 with
              | false => rfl
              | true =>
                have e0 := h9
                have e0 := hdn 13 _ rfl e0 12 (by decide)
                have e0 := hdn 12 _ rfl e0 1 (by decide)
                rw [hn] at e0; cases e0
            have hB := cB n13
            gi_wp2
            show Inv _ _ _
            rw [unhide HInv]
            exact ⟨x21, _, x23, x24, x25, x26, x27, x28, x29, x30, x31, x32, x33, rfl, fun h => c0 (by simpa using h), fun _ => rfl, fun h => c2 (by simpa using h), fun h => c3 (by simpa using h), fun h => c4 (by simpa using h), fun h => c5 (by simpa using h), fun h => c6 (by simpa using h), fun h => c7 (by simpa using h), fun h => c8 (by simpa using h), fun h => c9 (by simpa using h), fun h => c10 (by simpa using h), fun h => c11 (by simpa using h), fun h => c12 (by simpa using h), fun h => hB, fun h => (by simp [n13] at h)⟩
          case o2 =>
            rintro D a' V' hn hd hdn hI
            rw [unhide HInv] at hI
            obtain ⟨x21, x22, x23, x24, x25, x26, x27, x28, x29, x30, x31, x32, x33, rfl, c0, c1, c2, c3, c4, c5, c6, c7, c8, c9, c10, c11, c12, cB, cF⟩ := hI
            have n13 : D 13 = false := by
              cases h9 : D 13 with
              | false => rfl
              | true =>
                have e0 := h9
                have e0 := hdn 13 _ rfl e0 11 (by decide)
                have e0 := hdn 11 _ rfl e0 2 (by decide)
                rw [hn] at e0; cases e0
            have hB := cB n13
            have g23 := unhide G23 V' hB
            gi_wp2
            show Inv _ _ _
            rw [unhide HInv]
            exact ⟨x21, x22, _, x24, x25, x26, x27, x28, x29, x30, x31, x32, x33, rfl, fun h => c0 (by simpa using h), fun h => c1 (by simpa using h), fun _ => rfl, fun h => c3 (by simpa using h), fun h => c4 (by simpa using h), fun h => c5 (by simpa using h), fun h => c6 (by simpa using h), fun h => c7 (by simpa using h), fun h => c8 (by simpa using h), fun h => c9 (by simpa using h), fun h => c10 (by simpa using h), fun h => c11 (by simpa using h), fun h => c12 (by simpa using h), fun h => hB, fun h => (by simp [n13] at h)⟩
          case o3 =>
            rintro D a' V' hn hd hdn hI
            rw [unhide HInv] at hI
            obtain ⟨x21, x22, x23, x24, x25, x26, x27, x28, x29, x30, x31, x32, x33, rfl, c0, c1, c2, c3, c4, c5, c6, c7, c8, c9, c10, c11, c12, cB, cF⟩ := hI
            have n13 : D 13 = false := by
              cases h9 : D 13 with
              | false => rfl
              | true =>
                have e0 := h9
                have e0 := hdn 13 _ rfl e0 11 (by decide)
                have e0 := hdn 11 _ rfl e0 10 (by decide)
                have e0 := hdn 10 _ rfl e0 9 (by decide)
                have e0 := hdn 9 _ rfl e0 4 (by decide)
                have e0 := hdn 4 _ rfl e0 3 (by decide)
                rw [hn] at e0; cases e0
            have hB := cB n13
            gi_wp2
            show Inv _ _ _
            rw [unhide HInv]
            exact ⟨x21, x22, x23, _, x25, x26, x27, x28, x29, x30, x31, x32, x33, rfl, fun h => c0 (by simpa using h), fun h => c1 (by simpa using h), fun h => c2 (by simpa using h), fun _ => rfl, fun h => c4 (by simpa using h), fun h => c5 (by simpa using h), fun h => c6 (by simpa using h), fun h => c7 (by simpa using h), fun h => c8 (by simpa using h), fun h => c9 (by simpa using h), fun h => c10 (by simpa using h), fun h => c11 (by simpa using h), fun h => c12 (by simpa using h), fun h => hB, fun h => (by simp [n13] at h)⟩
          case o4 =>
            rintro D a' V' hn hd hdn hI
            rw [unhide HInv] at hI
            obtain ⟨x21, x22, x23, x24, x25, x26, x27, x28, x29, x30, x31, x32, x33, rfl, c0, c1, c2, c3, c4, c5, c6, c7, c8, c9, c10, c11, c12, cB, cF⟩ := hI
            have n13 : D 13 = false := by
              cases h9 : D 13 with
              | false => rfl
              | true =>
                have e0 := h9
                have e0 := hdn 13 _ rfl e0 11 (by decide)
                have e0 := hdn 11 _ rfl e0 10 (by decide)
                have e0 := hdn 10 _ rfl e0 9 (by decide)
                have e0 := hdn 9 _ rfl e0 4 (by decide)
                rw [hn] at e0; cases e0
            have hB := cB n13
            obtain rfl := c3 (hd 3 (by decide))
            have g25 := unhide G25 V' hB
            gi_wp2
            show Inv _ _ _
            rw [unhide HInv]
            exact ⟨x21, x22, x23, _, _, x26, x27, x28, x29, x30, x31, x32, x33, rfl, fun h => c0 (by simpa using h), fun h => c1 (by simpa using h), fun h => c2 (by simpa using h), fun _ => rfl, fun _ => rfl, fun h => c5 (by simpa using h), fun h => c6 (by simpa using h), fun h => c7 (by simpa using h), fun h => c8 (by simpa using h), fun h => c9 (by simpa using h), fun h => c10 (by simpa using h), fun h => c11 (by simpa using h), fun h => c12 (by simpa using h), fun h => hB, fun h => (by simp [n13] at h)⟩
          case o5 =>
            rintro D a' V' hn hd hdn hI
            rw [unhide HInv] at hI
            obtain ⟨x21, x22, x23, x24, x25, x26, x27, x28, x29, x30, x31, x32, x33, rfl, c0, c1, c2, c3, c4, c5, c6, c7, c8, c9, c10, c11, c12, cB, cF⟩ := hI
            have n13 : D 13 = false := by
              cases h9 : D 13 with
              | false => rfl
              | true =>
                have e0 := h9
                have e0 := hdn 13 _ rfl e0 11 (by decide)
                have e0 := hdn 11 _ rfl e0 10 (by decide)
                have e0 := hdn 10 _ rfl e0 9 (by decide)
                have e0 := hdn 9 _ rfl e0 8 (by decide)
                have e0 := hdn 8 _ rfl e0 6 (by decide)
                have e0 := hdn 6 _ rfl e0 5 (by decide)
                rw [hn] at e0; cases e0
            have hB := cB n13
            gi_wp2
            show Inv _ _ _
            rw [unhide HInv]
            exact ⟨x21, x22, x23, x24, x25, _, x27, x28, x29, x30, x31, x32, x33, rfl, fun h => c0 (by simpa using h), fun h => c1 (by simpa using h), fun h => c2 (by simpa using h), fun h => c3 (by simpa using h), fun h => c4 (by simpa using h), fun _ => rfl, fun h => c6 (by simpa using h), fun h => c7 (by simpa using h), fun h => c8 (by simpa using h), fun h => c9 (by simpa using h), fun h => c10 (by simpa using h), fun h => c11 (by simpa using h), fun h => c12 (by simpa using h), fun h => hB, fun h => (by simp [n13] at h)⟩
          case o6 =>
            rintro D a' V' hn hd hdn hI
            rw [unhide HInv] at hI
            obtain ⟨x21, x22, x23, x24, x25, x26, x27, x28, x29, x30, x31, x32, x33, rfl, c0, c1, c2, c3, c4, c5, c6, c7, c8, c9, c10, c11, c12, cB, cF⟩ := hI
            have n13 : D 13 = false := by
              cases h9 : D 13 with
              | false => rfl
              | true =>
                have e0 := h9
                have e0 := hdn 13 _ rfl e0 11 (by decide)
                have e0 := hdn 11 _ rfl e0 10 (by decide)
                have e0 := hdn 10 _ rfl e0 9 (by decide)
                have e0 := hdn 9 _ rfl e0 8 (by decide)
                have e0 := hdn 8 _ rfl e0 6 (by decide)
                rw [hn] at e0; cases e0
            have hB := cB n13
            obtain rfl := c5 (hd 5 (by decide))
            obtain ⟨q1, q2, q3, q4⟩ := unhide QQ
            gi_wp2
            show Inv _ _ _
            rw [unhide HInv]
            exact ⟨x21, x22, x23, x24, x25, _, _, x28, x29, x30, x31, x32, x33, rfl, fun h => c0 (by simpa using h), fun h => c1 (by simpa using h), fun h => c2 (by simpa using h), fun h => c3 (by simpa using h), fun h => c4 (by simpa using h), fun _ => rfl, fun _ => rfl, fun h => c7 (by simpa using h), fun h => c8 (by simpa using h), fun h => c9 (by simpa using h), fun h => c10 (by simpa using h), fun h => c11 (by simpa using h), fun h => c12 (by simpa using h), fun h => hB, fun h => (by simp [n13] at h)⟩
          case o7 =>
            rintro D a' V' hn hd hdn hI
            rw [unhide HInv] at hI
            obtain ⟨x21, x22, x23, x24, x25, x26, x27, x28, x29, x30, x31, x32, x33, rfl, c0, c1, c2, c3, c4, c5, c6, c7, c8, c9, c10, c11, c12, cB, cF⟩ := hI
            have n13 : D 13 = false := by
              cases h9 : D 13 with
              | false => rfl
              | true =>
                have e0 := h9
                have e0 := hdn 13 _ rfl e0 11 (by decide)
                have e0 := hdn 11 _ rfl e0 10 (by decide)
                have e0 := hdn 10 _ rfl e0 9 (by decide)
                have e0 := hdn 9 _ rfl e0 8 (by decide)
                have e0 := hdn 8 _ rfl e0 7 (by decide)
                rw [hn] at e0; cases e0
            have hB := cB n13
            gi_wp2
            show Inv _ _ _
            rw [unhide HInv]
            exact ⟨x21, x22, x23, x24, x25, x26, x27, _, x29, x30, x31, x32, x33, rfl, fun h => c0 (by simpa using h), fun h => c1 (by simpa using h), fun h => c2 (by simpa using h), fun h => c3 (by simpa using h), fun h => c4 (by simpa using h), fun h => c5 (by simpa using h), fun h => c6 (by simpa using h), fun _ => rfl, fun h => c8 (by simpa using h), fun h => c9 (by simpa using h), fun h => c10 (by simpa using h), fun h => c11 (by simpa using h), fun h => c12 (by simpa using h), fun h => hB, fun h => (by simp [n13] at h)⟩
          case o8 =>
            rintro D a' V' hn hd hdn hI
            rw [unhide HInv] at hI
            obtain ⟨x21, x22, x23, x24, x25, x26, x27, x28, x29, x30, x31, x32, x33, rfl, c0, c1, c2, c3, c4, c5, c6, c7, c8, c9, c10, c11, c12, cB, cF⟩ := hI
            have n13 : D 13 = false := by
              cases h9 : D 13 with
              | false => rfl
              | true =>
                have e0 := h9
                have e0 := hdn 13 _ rfl e0 11 (by decide)
                have e0 := hdn 11 _ rfl e0 10 (by decide)
                have e0 := hdn 10 _ rfl e0 9 (by decide)
                have e0 := hdn 9 _ rfl e0 8 (by decide)
                rw [hn] at e0; cases e0
            have hB := cB n13
            obtain rfl := c6 (hd 6 (by decide))
            obtain rfl := c7 (hd 7 (by decide))
            obtain ⟨q1, q2, q3, q4⟩ := unhide QQ
            gi_wp2
            show Inv _ _ _
            rw [unhide HInv]
            exact ⟨x21, x22, x23, x24, x25, x26, _, _, _, x30, x31, x32, x33, rfl, fun h => c0 (by simpa using h), fun h => c1 (by simpa using h), fun h => c2 (by simpa using h), fun h => c3 (by simpa using h), fun h => c4 (by simpa using h), fun h => c5 (by simpa using h), fun _ => rfl, fun _ => rfl, fun _ => rfl, fun h => c9 (by simpa using h), fun h => c10 (by simpa using h), fun h => c11 (by simpa using h), fun h => c12 (by simpa using h), fun h => hB, fun h => (by simp [n13] at h)⟩
          case o9 =>
            rintro D a' V' hn hd hdn hI
            rw [unhide HInv] at hI
            obtain ⟨x21, x22, x23, x24, x25, x26, x27, x28, x29, x30, x31, x32, x33, rfl, c0, c1, c2, c3, c4, c5, c6, c7, c8, c9, c10, c11, c12, cB, cF⟩ := hI
            have n13 : D 13 = false := by
              cases h9 : D 13 with
              | false => rfl
              | true =>
                have e0 := h9
                have e0 := hdn 13 _ rfl e0 11 (by decide)
                have e0 := hdn 11 _ rfl e0 10 (by decide)
                have e0 := hdn 10 _ rfl e0 9 (by decide)
                rw [hn] at e0; cases e0
            have hB := cB n13
            obtain rfl := c4 (hd 4 (by decide))
            obtain rfl := c8 (hd 8 (by decide))
            obtain ⟨q1, q2, q3, q4⟩ := unhide QQ
            gi_wp2
            show Inv _ _ _
            rw [unhide HInv]
            exact ⟨x21, x22, x23, x24, _, x26, x27, x28, _, _, x31, x32, x33, rfl, fun h => c0 (by simpa using h), fun h => c1 (by simpa using h), fun h => c2 (by simpa using h), fun h => c3 (by simpa using h), fun _ => rfl, fun h => c5 (by simpa using h), fun h => c6 (by simpa using h), fun h => c7 (by simpa using h), fun _ => rfl, fun _ => rfl, fun h => c10 (by simpa using h), fun h => c11 (by simpa using h), fun h => c12 (by simpa using h), fun h => hB, fun h => (by simp [n13] at h)⟩
          case o10 =>
            rintro D a' V' hn hd hdn hI
            rw [unhide HInv] at hI
            obtain ⟨x21, x22, x23, x24, x25, x26, x27, x28, x29, x30, x31, x32, x33, rfl, c0, c1, c2, c3, c4, c5, c6, c7, c8, c9, c10, c11, c12, cB, cF⟩ := hI
            have n13 : D 13 = false := by
              cases h9 : D 13 with
              | false => rfl
              | true =>
                have e0 := h9
                have e0 := hdn 13 _ rfl e0 11 (by decide)
                have e0 := hdn 11 _ rfl e0 10 (by decide)
                rw [hn] at e0; cases e0
            have hB := cB n13
            obtain rfl := c9 (hd 9 (by decide))
            have g31 := unhide G31 V' hB
            gi_wp2
            show Inv _ _ _
            rw [unhide HInv]
            exact ⟨x21, x22, x23, x24, x25, x26, x27, x28, x29, _, _, x32, x33, rfl, fun h => c0 (by simpa using h), fun h => c1 (by simpa using h), fun h => c2 (by simpa using h), fun h => c3 (by simpa using h), fun h => c4 (by simpa using h), fun h => c5 (by simpa using h), fun h => c6 (by simpa using h), fun h => c7 (by simpa using h), fun h => c8 (by simpa using h), fun _ => rfl, fun _ => rfl, fun h => c11 (by simpa using h), fun h => c12 (by simpa using h), fun h => hB, fun h => (by simp [n13] at h)⟩
          case o11 =>
            rintro D a' V' hn hd hdn hI
            rw [unhide HInv] at hI
            obtain ⟨x21, x22, x23, x24, x25, x26, x27, x28, x29, x30, x31, x32, x33, rfl, c0, c1, c2, c3, c4, c5, c6, c7, c8, c9, c10, c11, c12, cB, cF⟩ := hI
            have n13 : D 13 = false := by
              cases h9 : D 13 with
              | false => rfl
              | true =>
                have e0 := h9
                have e0 := hdn 13 _ rfl e0 11 (by decide)
                rw [hn] at e0; cases e0
            have hB := cB n13
            obtain rfl := c2 (hd 2 (by decide))
            obtain rfl := c10 (hd 10 (by decide))
            refine PStepI.call_list hF (by omega) rfl (some 32) rfl (Oper.semAt_some _ _ _ (by simp)) (w' := V') (f := k) (args := #[VU.enc y] ++ caps) (by simp [go_sem, execOp, resolve, invoke, Act.eval, unhide HEG]) ((callsIn_wide.2 (unhide HCL V' hB)).inRound l2) ?_
            rintro e W' ⟨rfl, hb⟩
            refine ⟨_, rfl, ?_⟩
            show Inv _ _ _
            rw [unhide HInv]
            exact ⟨x21, x22, _, x24, x25, x26, x27, x28, x29, x30, _, _, x33, rfl, fun h => c0 (by simpa using h), fun h => c1 (by simpa using h), fun _ => rfl, fun h => c3 (by simpa using h), fun h => c4 (by simpa using h), fun h => c5 (by simpa using h), fun h => c6 (by simpa using h), fun h => c7 (by simpa using h), fun h => c8 (by simpa using h), fun h => c9 (by simpa using h), fun _ => rfl, fun _ => rfl, fun h => c12 (by simpa using h), fun _ => hB.trans (hb.mono hB.size), fun h => (by simp [n13] at h)⟩
          case o12 =>
            rintro D a' V' hn hd hdn hI
            rw [unhide HInv] at hI
            obtain ⟨x21, x22, x23, x24, x25, x26, x27, x28, x29, x30, x31, x32, x33, rfl, c0, c1, c2, c3, c4, c5, c6, c7, c8, c9, c10, c11, c12, cB, cF⟩ := hI
            have n13 : D 13 = false := by
              cases h9 : D 13 with
              | false => rfl
              | true =>
                have e0 := h9
                have e0 := hdn 13 _ rfl e0 12 (by decide)
                rw [hn] at e0; cases e0
            have hB := cB n13
            obtain rfl := c0 (hd 0 (by decide))
            obtain rfl := c1 (hd 1 (by decide))
            obtain ⟨q1, q2, q3, q4⟩ := unhide QQ
            gi_wp2
            show Inv _ _ _
            rw [unhide HInv]
            exact ⟨_, _, x23, x24, x25, x26, x27, x28, x29, x30, x31, x32, _, rfl, fun _ => rfl, fun _ => rfl, fun h => c2 (by simpa using h), fun h => c3 (by simpa using h), fun h => c4 (by simpa using h), fun h => c5 (by simpa using h), fun h => c6 (by simpa using h), fun h => c7 (by simpa using h), fun h => c8 (by simpa using h), fun h => c9 (by simpa using h), fun h => c10 (by simpa using h), fun h => c11 (by simpa using h), fun _ => rfl, fun h => hB, fun h => (by simp [n13] at h)⟩
          case o13 =>
            rintro D a' V' hn hd hdn hI
            rw [unhide HInv] at hI
            obtain ⟨x21, x22, x23, x24, x25, x26, x27, x28, x29, x30, x31, x32, x33, rfl, c0, c1, c2, c3, c4, c5, c6, c7, c8, c9, c10, c11, c12, cB, cF⟩ := hI
            have hB := cB hn
            obtain rfl := c12 (hd 12 (by decide))
            obtain rfl := c11 (hd 11 (by decide))
            obtain ⟨z, gz, gf⟩ := unhide GST V' hB
            have HFN := unhide GFN V' hB
            gi_wp2
            show Inv _ _ _
            rw [unhide HInv]
            exact ⟨x21, x22, x23, x24, x25, x26, x27, x28, x29, x30, x31, _, _, rfl, fun h => c0 (by simpa using h), fun h => c1 (by simpa using h), fun h => c2 (by simpa using h), fun h => c3 (by simpa using h), fun h => c4 (by simpa using h), fun h => c5 (by simpa using h), fun h => c6 (by simpa using h), fun h => c7 (by simpa using h), fun h => c8 (by simpa using h), fun h => c9 (by simpa using h), fun h => c10 (by simpa using h), fun _ => rfl, fun _ => rfl, fun h => (by simp at h), fun _ => HFN⟩
        case he =>
          intro D a' V' hall hI
          rw [unhide HInv] at hI
          obtain ⟨x21, x22, x23, x24, x25, x26, x27, x28, x29, x30, x31, x32, x33, rfl, -, -, -, -, -, -, -, -, -, -, -, -, -, -, cF⟩ := hI
          have h3 := cF (hall 13 (by decide))
          rw [unhide HFin] at h3
          have H3 := hide h3
          clear h3 cF hall
          gi_wp2
          go_roundw
          case rel => exact ⟨i + 1, by simp, by omega, H3⟩
          case measure => simp [RowKit.intOf]; omega
      · obtain rfl : i = 64 := by omega
        have hR := unhide HR
        obtain ⟨v, ul, hA, hO⟩ := hR.tu.mak
        obtain ⟨M, hM, hMs, hMj⟩ := hR.wr
        obtain ⟨hm64, hlen, hx2, happ, hb64, hbat⟩ := unhide HE
        have hob : OkB (bl.map φ) := ⟨by rw [List.length_map, hb64], fun z hz => by
          obtain ⟨y, hy, rfl⟩ := List.mem_map.1 hz
          obtain ⟨i, hi⟩ := List.mem_iff_getElem?.1 hy
          exact (hf.2 y (hbat i y hi).2.2).1⟩
        have hput := put_valsM wr (w.heap.size + 2) mk bn m v ul vb xv hA hm64 (w1.heap.size + 1) 0 64 (bl.map φ) hob (fun j y hy => by
          have hj : j < 64 := by have := (List.getElem?_eq_some_iff.1 hy).1; rw [List.length_map, hb64] at this; exact this
          have := hMj j hj y hy
          rw [Nat.zero_add]
          simp [World.cell?, hM, this]) (fun e => by have := hO (w1.heap.size + 1) (.inr (.inr (.inr (.inl e)))); omega) times hx2 hlen
        have hok2 : ∀ y ∈ xv ++ (List.replicate times (bl.map φ)).flatten, okE y := fun y hy => by
          rcases List.mem_append.1 hy with hy | hy
          · exact hR.tu.ok y hy
          · obtain ⟨l, hl, hy⟩ := List.mem_flatten.1 hy
            rw [List.eq_of_mem_replicate hl] at hy
            exact hob.2 y hy
        have HPUT := hide hput
        have HA := hide (And.intro hA (And.intro hO hok2))
        have c35 : wr.cell? ⟨w1.heap.size, 0, none⟩ = some (.pointer (some ⟨mk, 0, none⟩)) := by
          have := hR.tu.b
          simp [World.cell?, this]
        have c36 : wr.cell? ⟨w1.heap.size + 1 + 1, 0, none⟩ = some (.slice (some ⟨w1.heap.size + 1, 0, none⟩) 64 64) := by
          have := hR.tu.s
          show wr.cell? ⟨w1.heap.size + 2, 0, none⟩ = _
          simp [World.cell?, this]
        clear hput hA hO hob hM hMs hMj hm64 hlen hx2 happ hb64 hbat hR hok2
        gi_wp2_with fail
        refine CallsIn.mono ((callsIn_wide.2 (unhide HPUT)).inRound l2) ?_
        rintro e W ⟨rfl, v', ul', hW, hk, hB⟩
        obtain ⟨hA, hO, hok2⟩ := unhide HA
        have hR := unhide HR
        have hfin := TuAt.put hR hO hA hW hk hB hok2
        have hn := hR.tu.hn
        have hm := hR.tu.hm
        have hszw := hR.sz
        have hgo : ∀ q (ob : Obj), q < V.heap.size → q ≠ w1.heap.size + 1 → (∀ j, Own mk bn m v ul vb j → j ≠ q) → V.heap[q]? = some ob → W.heap[q]? = some ob := fun q ob h1 h2 h3 h4 => (hk.keep q (by omega) (fun o => h3 q o rfl)).trans ((hR.kp q h1 h2).trans h4)
        have HFIN := hide hfin
        have HGO := hide hgo
        have HSZ := hide (Nat.le_trans hszw hk.size)
        have HOO := hide (And.intro hO (And.intro (fun j (o : Own mk bn m v ul vb j) => (hA.own o).1) (And.intro (fun j (o : Own mk bn m v ul vb j) => hA.cells o) hm)))
        clear hfin hgo hk hB hW hA hO hok2 hR hszw
        gi_wp2_with fail
        obtain ⟨hO, hOB, hOC, hm⟩ := unhide HOO
        refine ⟨⟨unhide HSZ, fun q ob hq hob ho => ?_⟩, ⟨⟨unhide HSZ⟩, fun q ob hq hcc hob => ?_⟩, ?_⟩
        · have hqV := (Array.getElem?_eq_some_iff.1 hob).1
          refine unhide HGO q ob hqV (by omega) (fun j hj e => ?_) hob
          subst e
          rcases hOC j hj with rfl | ⟨ob', h1, h2⟩
          · omega
          · have h3 := (unhide HR).kp j hqV (by omega)
            rw [h1, hob] at h3
            cases h3
            rw [ho] at h2; cases h2
        · have hqV := (Array.getElem?_eq_some_iff.1 hob).1
          rcases hq with hq | hq | hq | hq | hq
          · omega
          · refine unhide HGO q ob hqV (by omega) (fun j hj e => ?_) hob
            have := hO j hj
            omega
          · have := (hP.rt.lt q hq).2
            exact unhide HGO q ob hqV (by omega) (fun j hj e => by have := hOB j hj; omega) hob
          · have := (hP.rm.lt q hq).2
            exact unhide HGO q ob hqV (by omega) (fun j hj e => by have := hOB j hj; omega) hob
          · have := (hP.rl.lt q hq).2
            exact unhide HGO q ob hqV (by omega) (fun j hj e => by have := hOB j hj; omega) hob
        · show TuAt _ _ _ _ _ _ _ _ _ _ _ (VU.laidT φ vs (pre ++ [_]))
          rw [(unhide HE).2.2.2.1]
          exact unhide HFIN
  case done =>
    rintro D xs V hD hS h hK
    subst hS
    have h : TuAt w V w1.heap.size mk bn m vb vt vm vl (.func (.func k) #[] caps) (VU.laidT φ vs (VU.runS (VU.lowP vs) 17408).1) := h
    rw [VU.laid_all φ vs hP.len] at h
    obtain ⟨v, ul, hA, hO⟩ := h.mak
    have hMV : MakV V (w.heap.size + 2) mk (Own mk bn m v ul vb) (vs.map φ) := ⟨bn, m, v, ul, vb, rfl, hA, h.ok⟩
    have c39 : V.cell? ⟨w1.heap.size, 0, none⟩ = some (.pointer (some ⟨mk, 0, none⟩)) := by
      have := h.b
      simp [World.cell?, this]
    have HT := hide h
    have HK := hide hK
    have HMV := hide hMV
    clear h hA hO hMV hP2 hr2 h0
    gi_wp2_with fail
    refine callsIn_wide.2 (trie_any _ _ _ _ _ _ (unhide HMV) (by rw [List.length_map, hP.len]) (hide fun w' bt ut um ul hT hb hle => ?_))
    have hDl := (Array.getElem?_eq_some_iff.1 (unhide HK)).1
    have hKD : w'.heap[D]? = some (.deferred (some [])) := (hb.block _ hDl).trans (unhide HK)
    have HF2 := hide (And.intro hT (And.intro hb hle))
    have HKD := hide hKD
    clear hT hb hle hKD
    gi_wp2_with fail
    refine ⟨by simp, .inl ⟨_, _, rfl, run_takeDeferred (unhide HKD), ?_⟩⟩
    refine ⟨_, results_tmp rfl _ _ _, ?_⟩
    obtain ⟨hT, hb, hle⟩ := unhide HF2
    have hbel := (unhide HT).bel
    have hown : OwnFrom D (fun (_ : Unit) W => TrAt W (w.heap.size + 2) bt ut um ul (vs.map φ)) := fun _ A C row hs hg hr => hs.ownX hg fun r e => (hr r e).2
    exact unhide hQ _ bt ut um ul ((hown.putObj (s := ()) _ hT (Nat.le_refl _) (unhide HKD) rfl).lower (by omega)) (below_put (hbel.trans (hb.mono hbel.size)) (by have := (unhide HT).sz; have := (unhide HT).hn; omega) _) (by have := hbel.size; omega)
end Go.Proofs.Ytokillomaemocaa.VU
