/-
  TriePoints walked.
-/
import Derived.Test.YtokillomaemocaaTrNv
import Derived.Test.YtokillomaemocaaTrQu
import Derived.Test.YtokillomaemocaaTrSmW
import Derived.Test.YtokillomaemocaaTrQs
import Derived.Test.YtokillomaemocaaPStepI
namespace Go.Proofs.Ytokillomaemocaa.triePoints
open Go.ChangeShapes Go.WideShapes Go.ChangeAt Go.RowKit Go.PlainAid Go.Lib Go.ChangeMaps Go.PRow Go.TrM Go.SeqM
open Go.Proofs.Ytokillomaemocaa.VK (SpAt)
open Go.Proofs.Ytokillomaemocaa.trieSmall (Blt build_blt)
attribute [local go_sem] Oper.semAt_some
set_option linter.unusedVariables false
set_option linter.unusedSimpArgs false
theorem where_eq {vs : List Int} {v : Int} {a b : Nat} (h : whereV vs v a = whereV vs v b) (hab : a ≤ b) : ∀ k, a ≤ k → k < b → vs[k]? ≠ some v := by
  intro k k1 k2 e
  have : k ∈ whereV vs v b := by unfold whereV; simp [k2, e]
  rw [← h] at this
  unfold whereV at this
  simp at this
  omega
theorem where_le {vs : List Int} {v : Int} {a r : Nat} (h : whereV vs v a = whereV vs v r) (hr : vs[r]? = some v) : a ≤ r := by
  rcases Nat.lt_or_ge r a with hl | hl
  · exact absurd hr (where_eq h.symm (Nat.le_of_lt hl) r (Nat.le_refl _) hl)
  · exact hl
/-- the number in a box -/
def numAt (W : World) (b : Nat) : Nat := (RowKit.intOf ((W.cell? ⟨b, 0, none⟩).getD undef)).toNat
/-- the law's boxes -/
structure PtAt (w V : World) (rest : Int) (a : Option Addr) (n cap : Nat) (v : Int) (b10 nx : Nat) : Prop where
  bel : Below w.heap.size w V
  c3 : V.heap[w.heap.size]? = some (.cells #[.int .u8 rest] 5 (0, 0))
  c4 : V.heap[w.heap.size + 1]? = some (.cells #[.slice a n cap] 22 (0, 0))
  c5 : V.heap[w.heap.size + 2]? = some (.cells #[.int .u8 v] 5 (0, 0))
  c6 : V.heap[w.heap.size + 3]? = some (.cells #[.bool false] 4 (0, 0))
  c10 : V.heap[b10]? = some (.cells #[.int .i32 (nx : Int)] 21 (0, 0))
  lt : w.heap.size + 4 ≤ b10
theorem PtAt.below {w V X : World} {rest : Int} {a : Option Addr} {n cap : Nat} {v : Int} {b10 nx : Nat} (h : PtAt w V rest a n cap v b10 nx) (hb : Below V.heap.size V X) : PtAt w X rest a n cap v b10 nx := by
  have k : ∀ {i : Nat} {ob : Obj}, V.heap[i]? = some ob → X.heap[i]? = some ob := fun hi => (hb.block _ (Array.getElem?_eq_some_iff.1 hi).1).trans hi
  exact ⟨h.bel.trans (hb.mono h.bel.size), k h.c3, k h.c4, k h.c5, k h.c6, k h.c10, h.lt⟩
theorem PtAt.own {w V X : World} {rest : Int} {a : Option Addr} {n cap : Nat} {v : Int} {b10 nx : Nat} (h : PtAt w V rest a n cap v b10 nx) {row : Option Nat} {C : Nat} (hC : w.heap.size ≤ C) (hg : V.grownBy X row) (hr : ∀ r, row = some r → C ≤ r ∧ ∃ o : Obj, V.heap[r]? = some o ∧ o.isCells = false) : PtAt w X rest a n cap v b10 nx := by
  have hk : ∀ {i : Nat} {ob : Obj}, V.heap[i]? = some ob → ob.isCells = true → X.heap[i]? = some ob := fun hi hc => (grownBy_keeps_cells hg (fun r e => (hr r e).2) hi hc).trans hi
  exact ⟨h.bel.grown hg h.bel.size (fun k hk => by have := (hr k hk).1; omega), hk h.c3 rfl, hk h.c4 rfl, hk h.c5 rfl, hk h.c6 rfl, hk h.c10 rfl, h.lt⟩
theorem PtAt.next {w V : World} {rest : Int} {a : Option Addr} {n cap : Nat} {v : Int} {b10 nx : Nat} (h : PtAt w V rest a n cap v b10 nx) (y : Nat) : PtAt w (V.setCell ⟨b10, 0, none⟩ (.int .i32 (y : Int))) rest a n cap v b10 y := by
  have hne : ∀ q, q ≠ b10 → (V.setCell ⟨b10, 0, none⟩ (.int .i32 (y : Int))).heap[q]? = V.heap[q]? := fun q hq => VU.set_ne hq
  have hlt := h.lt
  refine ⟨h.bel.setCell (by simp only; omega) _, (hne _ (by omega)).trans h.c3, (hne _ (by omega)).trans h.c4, (hne _ (by omega)).trans h.c5, (hne _ (by omega)).trans h.c6, ?_, h.lt⟩
  simp only [World.setCell, Array.getElem?_modify, if_true, h.c10, Option.map_some]
  rfl
theorem PtAt.cells {w V : World} {rest : Int} {a : Option Addr} {n cap : Nat} {v : Int} {b10 nx : Nat} (h : PtAt w V rest a n cap v b10 nx) : V.cell? ⟨w.heap.size, 0, none⟩ = some (.int .u8 rest) ∧ V.cell? ⟨w.heap.size + 1, 0, none⟩ = some (.slice a n cap) ∧ V.cell? ⟨w.heap.size + 1 + 1, 0, none⟩ = some (.int .u8 v) ∧ V.cell? ⟨b10, 0, none⟩ = some (.int .i32 (nx : Int)) ∧ V.frozen? ⟨b10, 0, none⟩ = false ∧ V.cell? ⟨w.heap.size + 1 + 1 + 1, 0, none⟩ = some (.bool false) ∧ V.frozen? ⟨w.heap.size + 1 + 1 + 1, 0, none⟩ = false := by
  have h5 := h.c5
  have h6 := h.c6
  rw [show w.heap.size + 2 = w.heap.size + 1 + 1 from rfl] at h5
  rw [show w.heap.size + 3 = w.heap.size + 1 + 1 + 1 from rfl] at h6
  refine ⟨?_, ?_, ?_, ?_, ?_, ?_, ?_⟩
  · simp [World.cell?, h.c3]
  · simp [World.cell?, h.c4]
  · simp [World.cell?, h5]
  · simp [World.cell?, h.c10]
  · simp [World.frozen?, h.c10]
  · simp [World.cell?, h6]
  · simp [World.frozen?, h6]
/-- within a round: all but the box of next stays -/
structure RdAt (w w1 V X : World) (rest : Int) (a : Option Addr) (n cap : Nat) (v : Int) (b10 nx : Nat) : Prop where
  pt : PtAt w X rest a n cap v b10 nx
  bel : Below w1.heap.size w1 X
  sz : V.heap.size ≤ X.heap.size
  kp : ∀ q, q ≠ b10 → q < V.heap.size → X.heap[q]? = V.heap[q]?
theorem RdAt.drew {w w1 V X : World} {rest : Int} {a : Option Addr} {n cap : Nat} {v : Int} {b10 nx : Nat} (h : RdAt w w1 V X rest a n cap v b10 nx) : RdAt w w1 V X.drew rest a n cap v b10 nx :=
  ⟨h.pt.below (Below.refl _ _).drew, h.bel.drew, h.sz, h.kp⟩
theorem RdAt.next {w w1 V X : World} {rest : Int} {a : Option Addr} {n cap : Nat} {v : Int} {b10 nx : Nat} (h : RdAt w w1 V X rest a n cap v b10 nx) (hb : w1.heap.size ≤ b10) (y : Nat) : RdAt w w1 V (X.setCell ⟨b10, 0, none⟩ (.int .i32 (y : Int))) rest a n cap v b10 y :=
  ⟨h.pt.next y, h.bel.setCell (by simpa using hb) _, by rw [World.size_setCell]; exact h.sz, fun q hq hl => (VU.set_ne hq).trans (h.kp q hq hl)⟩
theorem num_is {w V : World} {rest : Int} {a : Option Addr} {n cap : Nat} {v : Int} {b10 nx : Nat} (h : PtAt w V rest a n cap v b10 nx) : numAt V b10 = nx := by
  obtain ⟨-, -, -, h, -⟩ := h.cells
  unfold numAt
  rw [h]
  simp [RowKit.intOf]
theorem vals_at (rest : Int) (ps : List (Pc Int)) {k : Nat} (h : k < 1114112) : (valsF rest ps)[k]? = some (valF rest ps k) := VK.valsF_at rest ps h
set_option maxRecDepth 100000 in
set_option maxHeartbeats 4000000 in
theorem walk (rest : Int) (a : Option Addr) (n cap : Nat) (ps : List (Pc Int)) (v : Int) (w : World) (hr0 : 0 ≤ rest) (hr1 : rest ≤ 255) (hn : ps.length = n) (hc : n ≤ cap) (hS : SpAt w a ps) (hv : ∀ p ∈ ps, 0 ≤ p.val ∧ p.val < 256) (hv0 : 0 ≤ v) (hv1 : v ≤ 255) :
    Calls Try.prog 5 #[.int .u8 rest, .slice a n cap, .int .u8 v] w fun e w' => e = .returned (.bool true) ∧ Below w.heap.size w w' := by
  obtain ⟨V, hV⟩ : ∃ V, V = (((w.alloc (.cells #[.int .u8 rest] 5)).alloc (.cells #[.slice a n cap] 22)).alloc (.cells #[.int .u8 v] 5)).alloc (.cells #[.bool false] 4) := ⟨_, rfl⟩
  have hbV : Below w.heap.size w V := by rw [hV]; exact ((((Below.refl _ w).alloc (Nat.le_refl _) _).alloc (by simp) _).alloc (by simp; omega) _).alloc (by simp; omega) _
  have hsV : w.heap.size + 4 ≤ V.heap.size := by rw [hV]; simp
  have h3 : V.heap[w.heap.size]? = some (.cells #[.int .u8 rest] 5 (0, 0)) := by rw [hV]; exact VU.heap_al (VU.heap_al (VU.heap_al (VU.heap_at (w := w) _ _ rfl) _) _) _
  have h4 : V.heap[w.heap.size + 1]? = some (.cells #[.slice a n cap] 22 (0, 0)) := by rw [hV]; exact VU.heap_al (VU.heap_al (VU.heap_at (w := w.alloc _) _ _ (by simp)) _) _
  have h5 : V.heap[w.heap.size + 2]? = some (.cells #[.int .u8 v] 5 (0, 0)) := by rw [hV]; exact VU.heap_al (VU.heap_at (w := (w.alloc _).alloc _) _ _ (by simp)) _
  have h6 : V.heap[w.heap.size + 3]? = some (.cells #[.bool false] 4 (0, 0)) := by rw [hV]; exact VU.heap_at (w := ((w.alloc _).alloc _).alloc _) _ _ (by simp)
  have HV := VU.hide hV
  have HB := VU.hide hbV
  have HX := VU.hide (And.intro h3 (And.intro h4 (And.intro h5 h6)))
  have HS := VU.hide (hS.below hbV)
  have HVV := VU.hide hv
  have HN := VU.hide hn
  clear hS hv hn hbV h3 h4 h5 h6 hV
  have hF : ∀ f, Fence.wide.fn f := fun _ => trivial
  refine (callsIn_wide (n := 18)).1 ?_
  refine callsIn_of_wp_marks Try.func5 rfl trivial ?_ rfl
  simp only [Try.ntmps5, List.size_toArray, List.length_cons, List.length_nil, Nat.reduceAdd, Nat.reduceSub, Array.replicate_succ, Array.replicate_zero, List.push_toArray, List.append_toArray, List.nil_append, List.cons_append]
  have HC := VU.hide (fun (X : World) (hX : Below V.heap.size V X) => (show X.cell? ⟨w.heap.size + 1 + 1 + 1, 0, none⟩ = some (.bool false) ∧ X.frozen? ⟨w.heap.size + 1 + 1 + 1, 0, none⟩ = false by
    have h := (hX.block _ (Array.getElem?_eq_some_iff.1 (VU.unhide HX).2.2.2).1).trans (VU.unhide HX).2.2.2
    rw [show w.heap.size + 3 = w.heap.size + 1 + 1 + 1 from rfl] at h
    exact ⟨by simp [World.cell?, h], by simp [World.frozen?, h]⟩))
  have HAW := VU.hide (fun X => VK.awake_any X)
  have hret : ∀ (X : World) (r : Bool), (X.setCell ⟨w.heap.size + 1 + 1 + 1, 0, none⟩ (.bool r)).heap.size = X.heap.size := fun X r => World.size_setCell _ _ _
  have HRET := VU.hide (fun (X : World) (hX : Below V.heap.size V X) => (show (X.setCell ⟨w.heap.size + 1 + 1 + 1, 0, none⟩ (.bool true)).cell? ⟨w.heap.size + 1 + 1 + 1, 0, none⟩ = some (.bool true) ∧ Below w.heap.size w (X.setCell ⟨w.heap.size + 1 + 1 + 1, 0, none⟩ (.bool true)) by
    have h := (hX.block _ (Array.getElem?_eq_some_iff.1 (VU.unhide HX).2.2.2).1).trans (VU.unhide HX).2.2.2
    rw [show w.heap.size + 3 = w.heap.size + 1 + 1 + 1 from rfl] at h
    refine ⟨?_, ((VU.unhide HB).trans (hX.mono (VU.unhide HB).size)).setCell (by simp only; omega) _⟩
    simp [World.cell?, World.setCell, Array.getElem?_modify, h]))
  clear hret
  by_cases h12 : 12 < n
  · gi_wp2_with fail
    rw [← VU.unhide HV]
    refine (callsIn_wide.2 (VU.unhide HAW V)).mono ?_
    rintro e w1 ⟨rfl, hb1⟩
    obtain ⟨k1, k2⟩ := VU.unhide HC w1 hb1
    obtain ⟨k3, k4⟩ := VU.unhide HRET w1 hb1
    have HF := VU.hide (And.intro k3 k4)
    clear k3 k4 hb1
    gi_wp2
    obtain ⟨k3, k4⟩ := VU.unhide HF
    refine ⟨.bool true, by simp [results, k3, go_sem], rfl, k4⟩
  have h12' : decide ((12 : Int) < (n : Int)) = false := decide_eq_false (by omega)
  gi_wp2_with fail
  rw [← VU.unhide HV]
  refine (callsIn_wide.2 (build_blt rest hr0 hr1 a cap ps n (VU.unhide HN) (by omega) hc (VU.unhide HVV) V (VU.unhide HS))).mono ?_
  rintro e w1 ⟨v7, v8, v9, rfl, hbl, hb1⟩
  by_cases h0 : (refP ps).2 = 0
  rotate_left
  · obtain ⟨rfl, _, h7⟩ := hbl
    obtain rfl := h7 h0
    have hz : ¬ ((refP ps).2 : Int) = 0 := by omega
    clear h7
    generalize (refP ps).2 = k0 at *
    have HB1 := VU.hide hb1
    clear hb1
    gi_wp2_with fail
    refine (callsIn_wide.2 (VU.unhide HAW w1)).mono ?_
    rintro e w2 ⟨rfl, hb2⟩
    have hb12 := (VU.unhide HB1).trans (hb2.mono (VU.unhide HB1).size)
    obtain ⟨k1, k2⟩ := VU.unhide HC w2 hb12
    obtain ⟨k3, k4⟩ := VU.unhide HRET w2 hb12
    have HF := VU.hide (And.intro k3 k4)
    clear k3 k4 hb2 hb12
    gi_wp2
    obtain ⟨k3, k4⟩ := VU.unhide HF
    refine ⟨.bool true, by simp [results, k3, go_sem], rfl, k4⟩
  obtain ⟨rfl, h, _⟩ := hbl
  obtain ⟨bt, vt, vm, vl, rfl, hT⟩ := h h0
  rw [h0]
  have hx : PtAt w (w1.alloc (.cells #[.int .i32 ((0 : Nat) : Int)] 21)) rest a n cap v w1.heap.size 0 := by
    have k : ∀ {i : Nat} {ob : Obj}, V.heap[i]? = some ob → (w1.alloc (.cells #[.int .i32 ((0 : Nat) : Int)] 21)).heap[i]? = some ob := fun hi => VU.heap_al ((hb1.block _ (Array.getElem?_eq_some_iff.1 hi).1).trans hi) _
    obtain ⟨h3, h4, h5, h6⟩ := VU.unhide HX
    exact ⟨((VU.unhide HB).trans (hb1.mono (VU.unhide HB).size)).alloc (by have := hb1.size; omega) _, k h3, k h4, k h5, k h6, World.alloc_heap_new w1 _, by have := hb1.size; omega⟩
  obtain ⟨V1, hV1⟩ : ∃ V1, V1 = w1.alloc (.cells #[.int .i32 ((0 : Nat) : Int)] 21) := ⟨_, rfl⟩
  rw [← hV1] at hx
  have hb11 : Below w1.heap.size w1 V1 := by rw [hV1]; exact (Below.refl _ w1).alloc (Nat.le_refl _) _
  have HT := VU.hide (hT.below hb11)
  have HT1 := VU.hide hT
  have HSW := VU.hide ((VU.unhide HS).below hb1)
  have HB11 := VU.hide hb11
  have HS1 := VU.hide ((VU.unhide HS).below (hb1.trans (hb11.mono hb1.size)))
  have HB1 := VU.hide (hb1.trans (hb11.mono hb1.size))
  have HV1 := VU.hide hV1
  have HP := VU.hide hx
  obtain ⟨-, -, x5, -⟩ := hx.cells
  have hs10 : V1.heap.size = w1.heap.size + 1 := by rw [hV1]; simp
  have HS10 := VU.hide hs10
  rw [hV1] at x5
  have x5 : (w1.alloc (.cells #[.int .i32 0] 21)).cell? ⟨w.heap.size + 1 + 1, 0, none⟩ = some (.int .u8 v) := x5
  clear hT h hb1 hb11 hV1 hx hs10
  have hfn : ∀ (f : Nat) (cap : Array Value) (w : World), Sem.run Try.prog (binOp BinOp.eql 59 (.func (.func f) #[] cap) .nilFunc) w = .ok (.bool false) w := fun f cap w => by
    have he : Sem.run Try.prog (Op.equal 59 (.func (.func f) #[] cap) .nilFunc) w = .ok false w := by
      kernel_rfl
    simp only [binOp, Sem.run_bind, he, Result.andThen]
    rfl
  gi_wp2_with fail
  have HV1' := VU.hide (show V1 = w1.alloc (.cells #[.int .i32 0] 21) from VU.unhide HV1)
  rw [← VU.unhide HV1']
  refine (callsIn_wide.2 (VU.where_any V1 bt v)).mono ?_
  rintro e W2 ⟨rfl, hW2⟩
  have hb2 : Below V1.heap.size V1 W2 := by rw [hW2]; exact ((Below.refl _ V1).alloc (Nat.le_refl _) _).alloc (by simp) _
  have HP2 := VU.hide ((VU.unhide HP).below hb2)
  have HB2 := VU.hide hb2
  have HT2 := VU.hide ((VU.unhide HT).below hb2)
  have HS2 := VU.hide ((VU.unhide HS1).below hb2)
  clear hW2 hb2 x5
  obtain ⟨-, -, x5, -⟩ := (VU.unhide HP2).cells
  gi_wp2_with fail
  refine (callsIn_wide.2 (VU.where_any W2 bt v)).mono ?_
  rintro e W3 ⟨rfl, hW3⟩
  have HW3 := VU.hide hW3
  have hb3 : Below W2.heap.size W2 W3 := by rw [hW3]; exact ((Below.refl _ W2).alloc (Nat.le_refl _) _).alloc (by simp) _
  have hp3 := (VU.unhide HP2).below hb3
  have hT3 := (VU.unhide HT2).below hb3
  have HS3 := VU.hide ((VU.unhide HS2).below hb3)
  have hq1 : W3.heap[W2.heap.size]? = some (.cells #[.pointer (some ⟨bt, 0, none⟩)] 29 (0, 0)) := by rw [hW3]; exact VU.heap_al (World.alloc_heap_new W2 _) _
  have hq2 : W3.heap[W2.heap.size + 1]? = some (.cells #[.int .u8 v] 5 (0, 0)) := by rw [hW3]; exact VU.heap_at (w := W2.alloc _) _ _ (by simp)
  have hlow : w1.heap.size < W2.heap.size ∧ W2.heap.size < W3.heap.size ∧ W3.heap.size = W2.heap.size + 2 := by
    have h1 := (VU.unhide HB2).size
    have h2 := VU.unhide HS10
    rw [hW3]
    simp
    omega
  have HLOW := VU.hide hlow
  clear hW3 x5 hlow
  gi_wp2_with fail
  obtain ⟨vs, hvs⟩ : ∃ vs, vs = valsF rest ps := ⟨_, rfl⟩
  rw [← hvs] at hT3 HT1
  have HVS := VU.hide hvs
  have hb13 : Below w1.heap.size w1 W3 := (VU.unhide HB11).trans (((VU.unhide HB2).trans (hb3.mono (VU.unhide HB2).size)).mono (VU.unhide HB11).size)
  have HNV := VU.hide (fun (X : World) (hX : Below w1.heap.size w1 X) (r : Nat) (hr : r < 1114112) => VK.naive_any rest a cap ps n (VU.unhide HN) (by omega) X ((VU.unhide HSW).below hX) r hr)
  clear hvs hb3 HT2 HT HP HP2 HV1 HV1' HS1 HS2 HB1 HS3
  refine range4G (by omega) (gf := 64) (lb := #[.pointer (some ⟨W2.heap.size, 0, none⟩), .pointer (some ⟨W2.heap.size + 1, 0, none⟩)]) rfl (enters_of Try.func64 (by kernel_rfl) rfl)
    (VU.where_gives _ W2.heap.size (W2.heap.size + 1) bt _ vt vm vl vs v (by omega) W3 hT3 hq1 hq2) (Below.refl _ _) (fun _ => rfl)
    (fun pre U => ∃ nx, pre = whereV vs v nx ∧ nx ≤ 1114112 ∧ PtAt w U rest a n cap v w1.heap.size nx ∧ Below w1.heap.size w1 U)
    (fun c pre U => False) (fun st A B row hx hg hr => by
      obtain ⟨nx, e1, e2, e3, e4⟩ := hx
      have hsW := e3.lt
      exact ⟨nx, e1, e2, e3.own (C := W3.heap.size) (by have := (VU.unhide HLOW); omega) hg hr, e4.grown hg e4.size (fun k hk => by have := (hr k hk).1; have := (VU.unhide HLOW); omega)⟩) (fun c => own_pure _ _) (CalmR.none _ _ _) ⟨0, rfl, Nat.zero_le _, hp3, hb13⟩ (fun x => { tmps := #[.int .u8 rest, .slice a n cap, .int .u8 v, .pointer (some ⟨w.heap.size, 0, none⟩), .pointer (some ⟨w.heap.size + 1, 0, none⟩), .pointer (some ⟨w.heap.size + 1 + 1, 0, none⟩), .pointer (some ⟨w.heap.size + 1 + 1 + 1, 0, none⟩), .pointer (some ⟨bt, 0, none⟩), v8, .int .i64 0, .pointer (some ⟨w1.heap.size, 0, none⟩), .int .i32 (x : Int), undef, undef, .slice a n cap, .int .i64 (n : Int), .bool false, undef, .tuple #[.pointer (some ⟨bt, 0, none⟩), v8, .int .i64 0], .int .u8 rest, .slice a n cap, .tuple #[.pointer (some ⟨bt, 0, none⟩), v8, .int .i64 0], .pointer (some ⟨bt, 0, none⟩), v8, .int .i64 0, .int .i64 0, .bool false, undef, undef, undef, undef, undef, .pointer (some ⟨bt, 0, none⟩), .bool false, .pointer (some ⟨bt, 0, none⟩), .int .u8 v, .func (.func 64) #[] #[.pointer (some ⟨V1.heap.size, 0, none⟩), .pointer (some ⟨V1.heap.size + 1, 0, none⟩)], .bool false, .pointer (some ⟨bt, 0, none⟩), .int .u8 v, .func (.func 64) #[] #[.pointer (some ⟨W2.heap.size, 0, none⟩), .pointer (some ⟨W2.heap.size + 1, 0, none⟩)], .int .i32 (x : Int), undef, undef, undef, undef, undef, undef, undef, undef, undef, undef, undef, undef, undef, undef, undef, undef, undef, undef, undef, undef, undef, undef, undef, undef, undef, undef, undef, undef, undef, undef, undef, undef, undef, undef, undef, undef, undef, undef, undef, undef, undef, undef, undef], defers := [] }) ?assign ?body ?done ?stop
  case assign =>
    intro l2 x U K hK
    simp only [VU.whE]
    gi_wp2
    exact hK
  case stop => rintro D c pre U _ _ h; exact h.elim
  case body =>
    rintro l2 pre x U hl2 hsz2 ⟨r, hr⟩ ⟨nx0, rfl, hnx0, hpt, hbel⟩ ⟨r2, hvr, hpre⟩
    obtain ⟨e1, rfl⟩ := VU.snoc_inj hpre
    have hle := where_le e1 hvr
    have hgap := where_eq e1 hle
    have hxl : x < 1114112 := by have := (List.getElem?_eq_some_iff.1 hvr).1; rw [hT3.len] at this; exact this
    have HG := VU.hide (And.intro hgap (And.intro hvr e1))
    have HR0 := VU.hide (show RdAt w w1 U U rest a n cap v w1.heap.size nx0 from ⟨hpt, hbel, Nat.le_refl _, fun _ _ _ => rfl⟩)
    have HLT := VU.hide (And.intro (VU.unhide HLOW) (And.intro hpt.lt hsz2))
    clear hgap hvr e1 hpre hpt hbel hT3 hq1 hq2 hp3 hb13 hsz2
    gi_wp2_with fail
    gi_loopw [42] (fun v42 wr => ∃ nx, nx0 ≤ nx ∧ nx ≤ x ∧ Hid (RdAt w w1 U wr rest a n cap v w1.heap.size nx)) (fun _ wr => x - numAt wr w1.heap.size)
    case atStart => exact ⟨nx0, Nat.le_refl _, hle, HR0⟩
    case round =>
      obtain ⟨nx, hn1, hn2, HR⟩ := hrel
      obtain ⟨x3, x4, x5, x10, f10, -, -⟩ := (VU.unhide HR).pt.cells
      rcases Nat.lt_or_ge nx x with hlt | hge
      · have d1 : decide ((nx : Int) < (x : Int)) = true := decide_eq_true (by omega)
        gi_wp2_with fail
        obtain ⟨x3, x4, x5, x10, f10, -, -⟩ := (VU.unhide HR).drew.pt.cells
        obtain ⟨y, hy⟩ : ∃ y, y = valF rest ps nx := ⟨_, rfl⟩
        have hyv : ¬ y = v := fun e => (VU.unhide HG).1 nx hn1 hlt (by rw [VU.unhide HVS, vals_at rest ps (by omega), ← hy, e])
        have hyb : (y == v) = false := by simpa using hyv
        have HL := VU.hide (fun m => (callsIn_wide (n := m) |>.2 (VU.unhide HNV wr.drew (VU.unhide HR).drew.bel nx (by omega))).inRound l2)
        rw [← hy] at HL
        have q9 : IntKind.i32.wrap ((nx : Int) + 1) = (nx : Int) + 1 := by rw [IntKind.wrap_i32]; omega
        have HD1 := VU.hide d1
        clear hy d1
        obtain ⟨Inv, hInv⟩ : ∃ Inv : (Nat → Bool) → Act → World → Prop, Inv = (fun D a' V' => ∃ y45 y46 y47 y48 y49 y50 : Value, a' = { tmps := #[.int .u8 rest, .slice a n cap, .int .u8 v, .pointer (some ⟨w.heap.size, 0, none⟩), .pointer (some ⟨w.heap.size + 1, 0, none⟩), .pointer (some ⟨w.heap.size + 1 + 1, 0, none⟩), .pointer (some ⟨w.heap.size + 1 + 1 + 1, 0, none⟩), .pointer (some ⟨bt, 0, none⟩), v8, .int .i64 0, .pointer (some ⟨w1.heap.size, 0, none⟩), .int .i32 (x : Int), undef, undef, .slice a n cap, .int .i64 (n : Int), .bool false, undef, .tuple #[.pointer (some ⟨bt, 0, none⟩), v8, .int .i64 0], .int .u8 rest, .slice a n cap, .tuple #[.pointer (some ⟨bt, 0, none⟩), v8, .int .i64 0], .pointer (some ⟨bt, 0, none⟩), v8, .int .i64 0, .int .i64 0, .bool false, undef, undef, undef, undef, undef, .pointer (some ⟨bt, 0, none⟩), .bool false, .pointer (some ⟨bt, 0, none⟩), .int .u8 v, .func (.func 64) #[] #[.pointer (some ⟨V1.heap.size, 0, none⟩), .pointer (some ⟨V1.heap.size + 1, 0, none⟩)], .bool false, .pointer (some ⟨bt, 0, none⟩), .int .u8 v, .func (.func 64) #[] #[.pointer (some ⟨W2.heap.size, 0, none⟩), .pointer (some ⟨W2.heap.size + 1, 0, none⟩)], .int .i32 (x : Int), .int .i32 (nx : Int), .int .i32 (x : Int), .bool true, y45, y46, y47, y48, y49, y50, u51, u52, undef, undef, undef, undef, undef, undef, undef, undef, undef, undef, undef, undef, undef, undef, undef, undef, undef, undef, undef, undef, undef, undef, undef, undef, undef, undef, undef, undef, undef, undef, undef, undef], defers := [] } ∧ (D 0 = true → y45 = .int .u8 rest) ∧ (D 1 = true → y46 = .slice a n cap) ∧ (D 2 = true → y47 = .int .i32 (nx : Int)) ∧ (D 3 = true → y48 = .int .u8 y) ∧ (D 4 = true → y49 = .int .u8 v) ∧ (D 5 = true → y50 = .bool false) ∧ V' = wr.drew) := ⟨_, rfl⟩
        have HInv := VU.hide hInv
        clear hInv
        refine RegInv.region Inv (by kernel_rfl) (by kernel_rfl) (by kernel_rfl) ?h0 ?hs ?he
        case h0 =>
          rw [VU.unhide HInv]
          exact ⟨u45, u46, u47, u48, u49, u50, rfl, (fun h => by cases h), (fun h => by cases h), (fun h => by cases h), (fun h => by cases h), (fun h => by cases h), (fun h => by cases h), rfl⟩
        case hs =>
          refine ⟨?o0, ?o1, ?o2, ?o3, ?o4, ?o5, trivial⟩
          case o0 =>
            rintro D a' V' hn hd hdn hI
            rw [VU.unhide HInv] at hI
            obtain ⟨y45, y46, y47, y48, y49, y50, rfl, c0, c1, c2, c3, c4, c5, rfl⟩ := hI
            gi_wp2
            show Inv _ _ _
            rw [VU.unhide HInv]
            exact ⟨_, y46, y47, y48, y49, y50, rfl, fun _ => rfl, fun h => c1 (by simpa using h), fun h => c2 (by simpa using h), fun h => c3 (by simpa using h), fun h => c4 (by simpa using h), fun h => c5 (by simpa using h), rfl⟩
          case o1 =>
            rintro D a' V' hn hd hdn hI
            rw [VU.unhide HInv] at hI
            obtain ⟨y45, y46, y47, y48, y49, y50, rfl, c0, c1, c2, c3, c4, c5, rfl⟩ := hI
            gi_wp2
            show Inv _ _ _
            rw [VU.unhide HInv]
            exact ⟨y45, _, y47, y48, y49, y50, rfl, fun h => c0 (by simpa using h), fun _ => rfl, fun h => c2 (by simpa using h), fun h => c3 (by simpa using h), fun h => c4 (by simpa using h), fun h => c5 (by simpa using h), rfl⟩
          case o2 =>
            rintro D a' V' hn hd hdn hI
            rw [VU.unhide HInv] at hI
            obtain ⟨y45, y46, y47, y48, y49, y50, rfl, c0, c1, c2, c3, c4, c5, rfl⟩ := hI
            gi_wp2
            show Inv _ _ _
            rw [VU.unhide HInv]
            exact ⟨y45, y46, _, y48, y49, y50, rfl, fun h => c0 (by simpa using h), fun h => c1 (by simpa using h), fun _ => rfl, fun h => c3 (by simpa using h), fun h => c4 (by simpa using h), fun h => c5 (by simpa using h), rfl⟩
          case o3 =>
            rintro D a' V' hn hd hdn hI
            rw [VU.unhide HInv] at hI
            obtain ⟨y45, y46, y47, y48, y49, y50, rfl, c0, c1, c2, c3, c4, c5, rfl⟩ := hI
            obtain rfl := c0 (hd 0 (by decide))
            obtain rfl := c1 (hd 1 (by decide))
            obtain rfl := c2 (hd 2 (by decide))
            gi_wp2_with (gi_at_call 30; with_reducible refine CallsIn.mono (VU.unhide HL _) ?_; rintro e w4 ⟨rfl, rfl⟩)
            show Inv _ _ _
            rw [VU.unhide HInv]
            exact ⟨_, _, _, _, y49, y50, rfl, fun _ => rfl, fun _ => rfl, fun _ => rfl, fun _ => rfl, fun h => c4 (by simpa using h), fun h => c5 (by simpa using h), rfl⟩
          case o4 =>
            rintro D a' V' hn hd hdn hI
            rw [VU.unhide HInv] at hI
            obtain ⟨y45, y46, y47, y48, y49, y50, rfl, c0, c1, c2, c3, c4, c5, rfl⟩ := hI
            gi_wp2
            show Inv _ _ _
            rw [VU.unhide HInv]
            exact ⟨y45, y46, y47, y48, _, y50, rfl, fun h => c0 (by simpa using h), fun h => c1 (by simpa using h), fun h => c2 (by simpa using h), fun h => c3 (by simpa using h), fun _ => rfl, fun h => c5 (by simpa using h), rfl⟩
          case o5 =>
            rintro D a' V' hn hd hdn hI
            rw [VU.unhide HInv] at hI
            obtain ⟨y45, y46, y47, y48, y49, y50, rfl, c0, c1, c2, c3, c4, c5, rfl⟩ := hI
            obtain rfl := c3 (hd 3 (by decide))
            obtain rfl := c4 (hd 4 (by decide))
            gi_wp2
            show Inv _ _ _
            rw [VU.unhide HInv]
            exact ⟨y45, y46, y47, _, _, _, rfl, fun h => c0 (by simpa using h), fun h => c1 (by simpa using h), fun h => c2 (by simpa using h), fun _ => rfl, fun _ => rfl, fun _ => rfl, rfl⟩
        case he =>
          intro D a' V' hall hI
          rw [VU.unhide HInv] at hI
          obtain ⟨y45, y46, y47, y48, y49, y50, rfl, k0, k1, k2, k3, k4, k5, rfl⟩ := hI
          obtain rfl := k0 (hall 0 (by decide))
          obtain rfl := k1 (hall 1 (by decide))
          obtain rfl := k2 (hall 2 (by decide))
          obtain rfl := k3 (hall 3 (by decide))
          obtain rfl := k4 (hall 4 (by decide))
          obtain rfl := k5 (hall 5 (by decide))
          clear hall HInv
          gi_wp2
          go_roundw
          case rel =>
            have h2 := (VU.unhide HR).drew.next (Nat.le_refl _) (nx + 1)
            exact ⟨nx + 1, by omega, by omega, VU.hide h2⟩
          case measure =>
            have e1 : numAt (wr.setCell ⟨w1.heap.size, 0, none⟩ (.int .i32 ((nx : Int) + 1))).drew w1.heap.size = nx + 1 := num_is ((VU.unhide HR).next (Nat.le_refl _) (nx + 1)).drew.pt
            have e2 : numAt wr w1.heap.size = nx := num_is (VU.unhide HR).pt
            rw [e1, e2]; omega
      · have d1 : decide ((nx : Int) < (x : Int)) = false := decide_eq_false (by omega)
        obtain rfl : nx = x := by omega
        gi_wp2_with fail
        obtain ⟨x3, x4, x5, x10, f10, -, -⟩ := (VU.unhide HR).drew.pt.cells
        have hyv : valF rest ps nx = v := by
          have := (VU.unhide HG).2.1
          rw [VU.unhide HVS, vals_at rest ps hxl] at this
          injection this
        have HL := VU.hide (fun m => (callsIn_wide (n := m) |>.2 (VU.unhide HNV wr.drew (VU.unhide HR).drew.bel nx (by omega))).inRound l2)
        rw [hyv] at HL
        have q9 : IntKind.i32.wrap ((nx : Int) + 1) = (nx : Int) + 1 := by rw [IntKind.wrap_i32]; omega
        clear hyv d1
        obtain ⟨Inv, hInv⟩ : ∃ Inv : (Nat → Bool) → Act → World → Prop, Inv = (fun D a' V' => ∃ y53 y54 y55 y56 y57 y58 : Value, a' = { tmps := #[.int .u8 rest, .slice a n cap, .int .u8 v, .pointer (some ⟨w.heap.size, 0, none⟩), .pointer (some ⟨w.heap.size + 1, 0, none⟩), .pointer (some ⟨w.heap.size + 1 + 1, 0, none⟩), .pointer (some ⟨w.heap.size + 1 + 1 + 1, 0, none⟩), .pointer (some ⟨bt, 0, none⟩), v8, .int .i64 0, .pointer (some ⟨w1.heap.size, 0, none⟩), .int .i32 (nx : Int), undef, undef, .slice a n cap, .int .i64 (n : Int), .bool false, undef, .tuple #[.pointer (some ⟨bt, 0, none⟩), v8, .int .i64 0], .int .u8 rest, .slice a n cap, .tuple #[.pointer (some ⟨bt, 0, none⟩), v8, .int .i64 0], .pointer (some ⟨bt, 0, none⟩), v8, .int .i64 0, .int .i64 0, .bool false, undef, undef, undef, undef, undef, .pointer (some ⟨bt, 0, none⟩), .bool false, .pointer (some ⟨bt, 0, none⟩), .int .u8 v, .func (.func 64) #[] #[.pointer (some ⟨V1.heap.size, 0, none⟩), .pointer (some ⟨V1.heap.size + 1, 0, none⟩)], .bool false, .pointer (some ⟨bt, 0, none⟩), .int .u8 v, .func (.func 64) #[] #[.pointer (some ⟨W2.heap.size, 0, none⟩), .pointer (some ⟨W2.heap.size + 1, 0, none⟩)], .int .i32 (nx : Int), .int .i32 (nx : Int), .int .i32 (nx : Int), .bool false, u45, u46, u47, u48, u49, u50, u51, u52, y53, y54, y55, y56, y57, y58, undef, undef, undef, undef, undef, undef, undef, undef, undef, undef, undef, undef, undef, undef, undef, undef, undef, undef, undef, undef, undef, undef, undef, undef, undef, undef], defers := [] } ∧ (D 0 = true → y53 = .int .u8 rest) ∧ (D 1 = true → y54 = .slice a n cap) ∧ (D 2 = true → y55 = .int .i32 (nx : Int)) ∧ (D 3 = true → y56 = .int .u8 v) ∧ (D 4 = true → y57 = .int .u8 v) ∧ (D 5 = true → y58 = .bool false) ∧ V' = wr.drew) := ⟨_, rfl⟩
        have HInv := VU.hide hInv
        clear hInv
        refine RegInv.region Inv (by kernel_rfl) (by kernel_rfl) (by kernel_rfl) ?h0 ?hs ?he
        case h0 =>
          rw [VU.unhide HInv]
          exact ⟨undef, undef, undef, undef, undef, undef, rfl, (fun h => by cases h), (fun h => by cases h), (fun h => by cases h), (fun h => by cases h), (fun h => by cases h), (fun h => by cases h), rfl⟩
        case hs =>
          refine ⟨?o0, ?o1, ?o2, ?o3, ?o4, ?o5, trivial⟩
          case o0 =>
            rintro D a' V' hn hd hdn hI
            rw [VU.unhide HInv] at hI
            obtain ⟨y53, y54, y55, y56, y57, y58, rfl, c0, c1, c2, c3, c4, c5, rfl⟩ := hI
            gi_wp2
            show Inv _ _ _
            rw [VU.unhide HInv]
            exact ⟨_, y54, y55, y56, y57, y58, rfl, fun _ => rfl, fun h => c1 (by simpa using h), fun h => c2 (by simpa using h), fun h => c3 (by simpa using h), fun h => c4 (by simpa using h), fun h => c5 (by simpa using h), rfl⟩
          case o1 =>
            rintro D a' V' hn hd hdn hI
            rw [VU.unhide HInv] at hI
            obtain ⟨y53, y54, y55, y56, y57, y58, rfl, c0, c1, c2, c3, c4, c5, rfl⟩ := hI
            gi_wp2
            show Inv _ _ _
            rw [VU.unhide HInv]
            exact ⟨y53, _, y55, y56, y57, y58, rfl, fun h => c0 (by simpa using h), fun _ => rfl, fun h => c2 (by simpa using h), fun h => c3 (by simpa using h), fun h => c4 (by simpa using h), fun h => c5 (by simpa using h), rfl⟩
          case o2 =>
            rintro D a' V' hn hd hdn hI
            rw [VU.unhide HInv] at hI
            obtain ⟨y53, y54, y55, y56, y57, y58, rfl, c0, c1, c2, c3, c4, c5, rfl⟩ := hI
            gi_wp2
            show Inv _ _ _
            rw [VU.unhide HInv]
            exact ⟨y53, y54, _, y56, y57, y58, rfl, fun h => c0 (by simpa using h), fun h => c1 (by simpa using h), fun _ => rfl, fun h => c3 (by simpa using h), fun h => c4 (by simpa using h), fun h => c5 (by simpa using h), rfl⟩
          case o3 =>
            rintro D a' V' hn hd hdn hI
            rw [VU.unhide HInv] at hI
            obtain ⟨y53, y54, y55, y56, y57, y58, rfl, c0, c1, c2, c3, c4, c5, rfl⟩ := hI
            obtain rfl := c0 (hd 0 (by decide))
            obtain rfl := c1 (hd 1 (by decide))
            obtain rfl := c2 (hd 2 (by decide))
            gi_wp2_with (gi_at_call 30; with_reducible refine CallsIn.mono (VU.unhide HL _) ?_; rintro e w4 ⟨rfl, rfl⟩)
            show Inv _ _ _
            rw [VU.unhide HInv]
            exact ⟨_, _, _, _, y57, y58, rfl, fun _ => rfl, fun _ => rfl, fun _ => rfl, fun _ => rfl, fun h => c4 (by simpa using h), fun h => c5 (by simpa using h), rfl⟩
          case o4 =>
            rintro D a' V' hn hd hdn hI
            rw [VU.unhide HInv] at hI
            obtain ⟨y53, y54, y55, y56, y57, y58, rfl, c0, c1, c2, c3, c4, c5, rfl⟩ := hI
            gi_wp2
            show Inv _ _ _
            rw [VU.unhide HInv]
            exact ⟨y53, y54, y55, y56, _, y58, rfl, fun h => c0 (by simpa using h), fun h => c1 (by simpa using h), fun h => c2 (by simpa using h), fun h => c3 (by simpa using h), fun _ => rfl, fun h => c5 (by simpa using h), rfl⟩
          case o5 =>
            rintro D a' V' hn hd hdn hI
            rw [VU.unhide HInv] at hI
            obtain ⟨y53, y54, y55, y56, y57, y58, rfl, c0, c1, c2, c3, c4, c5, rfl⟩ := hI
            obtain rfl := c3 (hd 3 (by decide))
            obtain rfl := c4 (hd 4 (by decide))
            gi_wp2
            show Inv _ _ _
            rw [VU.unhide HInv]
            exact ⟨y53, y54, y55, _, _, _, rfl, fun h => c0 (by simpa using h), fun h => c1 (by simpa using h), fun h => c2 (by simpa using h), fun _ => rfl, fun _ => rfl, fun _ => rfl, rfl⟩
        case he =>
          intro D a' V' hall hI
          rw [VU.unhide HInv] at hI
          obtain ⟨y53, y54, y55, y56, y57, y58, rfl, k0, k1, k2, k3, k4, k5, rfl⟩ := hI
          obtain rfl := k0 (hall 0 (by decide))
          obtain rfl := k1 (hall 1 (by decide))
          obtain rfl := k2 (hall 2 (by decide))
          obtain rfl := k3 (hall 3 (by decide))
          obtain rfl := k4 (hall 4 (by decide))
          obtain rfl := k5 (hall 5 (by decide))
          clear hall HInv
          gi_wp2
          have h2 := (VU.unhide HR).drew.next (Nat.le_refl _) (nx + 1)
          have h3 := VU.unhide HLT
          refine ⟨⟨h2.sz, fun q ob hq hob ho => ?_⟩, ⟨⟨h2.sz⟩, fun q ob hq hcc hob => ?_⟩, nx + 1, ?_, by omega, h2.pt, h2.bel⟩
          · exact (h2.kp q (by omega) (Array.getElem?_eq_some_iff.1 hob).1).trans hob
          · refine (h2.kp q ?_ (Array.getElem?_eq_some_iff.1 hob).1).trans hob
            have hT1 := VU.unhide HT1
            have hbt := hT1.lt
            rcases hq with hq | hq | hq | hq | hq | hq | hq | hq
            · omega
            · omega
            · omega
            · omega
            · omega
            · have := (hT1.rt.lt q hq).2; omega
            · have := (hT1.rm.lt q hq).2; omega
            · have := (hT1.rl.lt q hq).2; omega
          · rw [(VU.unhide HG).2.2, whereV_succ, if_pos (VU.unhide HG).2.1]
  case done =>
    rintro D xs U hD hS ⟨nx, hxs, hnx, hpt, hbel⟩ hK
    have hS : xs = whereV vs v 1114112 := hS
    have hgap := where_eq (hxs.symm.trans hS) hnx
    have HG := VU.hide hgap
    have HLEN := VU.hide hT3.len
    have HAT := VU.hide (fun (X : World) (hX : Below w1.heap.size w1 X) (r : Nat) (hr : r < 1114112) (y : Int) (hy : vs[r]? = some y) => VU.at_any X _ bt vt vm vl vs ((VU.unhide HT1).below hX) (r : Int) y (by rw [VU.atN_nat r hr]; exact hy))
    have HU := VU.hide (And.intro hpt (And.intro hbel hK))
    have hn1 : 1 ≤ 18 := by omega
    clear hgap hS hpt hbel hK hT3 hq1 hq2 hp3 hb13 hxs
    simp only [Exit.inBlock]
    gi_wp2_with fail
    gi_loopw [12] (fun v12 wr => ∃ r : Nat, v12 = .int .i32 (r : Int) ∧ r ≤ 1114112 ∧ Hid (Below U.heap.size U wr)) (fun v12 _ => 1114113 - (RowKit.intOf v12).toNat)
    case atStart => exact ⟨0, rfl, Nat.zero_le _, VU.hide (Below.refl _ _)⟩
    case round =>
      obtain ⟨r, rfl, hr, HBR⟩ := hrel
      have hbw : Below w1.heap.size w1 wr := (VU.unhide HU).2.1.trans ((VU.unhide HBR).mono (VU.unhide HU).2.1.size)
      obtain ⟨x3, x4, x5, x10, f10, x6, f6⟩ := ((VU.unhide HU).1.below (VU.unhide HBR)).cells
      have HBW := VU.hide hbw
      clear hbw
      rcases Nat.lt_or_ge r 1114112 with hlt | hge
      · have d1 : decide ((r : Int) ≤ 1114111) = true := decide_eq_true (by omega)
        have q9 : IntKind.i32.wrap ((r : Int) + 1) = (r : Int) + 1 := by rw [IntKind.wrap_i32]; omega
        obtain ⟨y, hy⟩ : ∃ y, y = valF rest ps r := ⟨_, rfl⟩
        have hyr : vs[r]? = some y := by rw [VU.unhide HVS, vals_at rest ps hlt, hy]
        have HNR := VU.hide (VU.unhide HNV wr (VU.unhide HBW) r hlt)
        rw [← hy] at HNR
        have HAR := VU.hide (VU.unhide HAT wr (VU.unhide HBW) r hlt y hyr)
        have HNE := VU.hide (fun (h : nx ≤ r) => (show ¬ y = v from fun e => VU.unhide HG r h hlt (by rw [hyr, e])))
        clear hy hyr
        gi_wp2_with fail
        refine (callsIn_wide.2 (VU.unhide HNR)).mono ?_
        rintro e w4 ⟨rfl, rfl⟩
        gi_wp2_with fail
        refine (callsIn_wide.2 (VU.unhide HAR)).mono ?_
        rintro e w5 ⟨rfl, hb5⟩
        have HB5 := VU.hide ((VU.unhide HBR).trans (hb5.mono (VU.unhide HBR).size))
        clear hb5 x3 x4 x5 x10 f10 x6 f6
        obtain ⟨x3, x4, x5, x10, f10, x6, f6⟩ := ((VU.unhide HU).1.below (VU.unhide HB5)).cells
        by_cases hnr : nx ≤ r
        · have d2 : decide ((nx : Int) ≤ (r : Int)) = true := decide_eq_true (by omega)
          have hyv := VU.unhide HNE hnr
          have hyb : (y == v) = false := by simpa using hyv
          gi_wp2
          go_roundw
          case rel => exact ⟨r + 1, by simp, by omega, HB5⟩
          case measure => simp [RowKit.intOf]; omega
        · have d2 : decide ((nx : Int) ≤ (r : Int)) = false := decide_eq_false (by omega)
          gi_wp2
          go_roundw
          case rel => exact ⟨r + 1, by simp, by omega, HB5⟩
          case measure => simp [RowKit.intOf]; omega
      · obtain rfl : r = 1114112 := by omega
        have d1 : decide ((1114112 : Int) ≤ 1114111) = false := decide_eq_false (by omega)
        gi_wp2_with fail
        refine (callsIn_wide.2 (VU.unhide HAW wr)).mono ?_
        rintro e w5 ⟨rfl, hb5⟩
        have HB5 := VU.hide ((VU.unhide HBR).trans (hb5.mono (VU.unhide HBR).size))
        clear hb5 x3 x4 x5 x10 f10 x6 f6
        obtain ⟨x3, x4, x5, x10, f10, x6, f6⟩ := ((VU.unhide HU).1.below (VU.unhide HB5)).cells
        gi_wp2
        have hK := (VU.unhide HU).2.2
        have hDl := (Array.getElem?_eq_some_iff.1 hK).1
        have hp5 := (VU.unhide HU).1.below (VU.unhide HB5)
        have hb6 := hp5.c6
        have h6l := (Array.getElem?_eq_some_iff.1 hb6).1
        have hD6 : D ≠ w.heap.size + 3 := by have := (VU.unhide HU).1.lt; have := (VU.unhide HLOW); omega
        have hK5 : (w5.setCell ⟨w.heap.size + 1 + 1 + 1, 0, none⟩ (.bool true)).heap[D]? = some (.deferred (some [])) := (VU.set_ne (show D ≠ w.heap.size + 1 + 1 + 1 from hD6)).trans (((VU.unhide HB5).block _ hDl).trans hK)
        refine ⟨by simp, .inl ⟨_, _, rfl, run_takeDeferred hK5, ?_⟩⟩
        have hr6 : ((w5.setCell ⟨w.heap.size + 1 + 1 + 1, 0, none⟩ (.bool true)).putObj D (.deferred none)).cell? ⟨w.heap.size + 1 + 1 + 1, 0, none⟩ = some (.bool true) := by
          have e : ((w5.setCell ⟨w.heap.size + 1 + 1 + 1, 0, none⟩ (.bool true)).putObj D (.deferred none)).heap[w.heap.size + 1 + 1 + 1]? = some (.cells #[.bool true] 4 (0, 0)) := by
            refine (World.putObj_heap_other (fun e => hD6 e.symm)).trans ?_
            have hb6 : w5.heap[w.heap.size + 1 + 1 + 1]? = some (.cells #[.bool false] 4 (0, 0)) := hb6
            simp only [World.setCell, Array.getElem?_modify, if_true, hb6, Option.map_some]
            rfl
          simp [World.cell?, e]
        refine ⟨.bool true, by simp [results, hr6, go_sem], rfl, ?_⟩
        exact below_put (hp5.bel.setCell (by simp only; omega) _) (by have := (VU.unhide HU).1.lt; have := (VU.unhide HLOW); omega) _
end Go.Proofs.Ytokillomaemocaa.triePoints
