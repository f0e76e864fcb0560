/-
  The law's goes: an iterator of wide's, gone over against the document's marks.
-/
import Derived.Test.YtghcheoholkpbaaWMarks2
namespace Go.Proofs.Ytghcheoholkpbaa
open Go.RowKit Go.PlainAid Go.Lib Go.Shelf
attribute [local go_sem] Oper.semAt_some
set_option linter.unusedVariables false

theorem own_blockF {β : Type} (B b : Nat) (o : β → Obj) (ho : ∀ x, (o x).isCells = true) : OwnFrom B (fun x W => W.heap[b]? = some (o x)) :=
  fun x _ _ _ hs hg hr => (grownBy_keeps_cells hg (fun r e => (hr r e).2) hs (ho x)).trans hs
theorem front_len {us : List Int} {pre : List (Up us)} {L : List Nat} (h : pre.map (·.1) <+: L) : pre.length ≤ L.length := by
  have := h.length_le; simpa using this
theorem front_next {us : List Int} {pre : List (Up us)} {L : List Nat} {x : Up us} (h : pre.map (·.1) <+: L) (hx : L[pre.length]? = some x.1) : (pre ++ [x]).map (·.1) <+: L := by
  obtain ⟨t, rfl⟩ := h
  rw [List.getElem?_append_right (by simp)] at hx
  simp only [List.length_map, Nat.sub_self] at hx
  cases t with
  | nil => simp at hx
  | cons y t =>
    simp only [List.getElem?_cons_zero, Option.some.injEq] at hx
    exact ⟨t, by rw [List.map_append, List.append_assoc, hx]; rfl⟩
theorem front_not {us : List Int} {pre : List (Up us)} {L : List Nat} {x : Up us} (hx : L[pre.length]? ≠ some x.1) : ¬ (pre ++ [x]).map (·.1) <+: L := by
  rintro ⟨t, ht⟩
  apply hx
  rw [← ht, List.map_append, List.append_assoc, List.getElem?_append_right (by simp)]
  simp
theorem alloc_old {X : World} {b : Nat} {o' : Obj} (h : X.heap[b]? = some o') (o : Obj) : (X.alloc o).heap[b]? = some o' := (((Below.refl X.heap.size X).alloc (Nat.le_refl _) o).block b (Array.getElem?_eq_some_iff.1 h).1).trans h
theorem goes_some (f : Nat) (x : Value) (w : World) (h : f = 74 ∨ f = 78) : (binOp .eql 49 (.func (.func f) #[] #[x]) .nilFunc).run Try.prog w = .ok (.bool false) w := by
  rcases h with rfl | rfl
  · kernel_rfl
  · kernel_rfl
theorem mark_box {W : World} {b : Nat} {x y z : Value} {t : TypeId} (h : W.heap[b]? = some (.cells #[x, y, z] t)) :
    W.cell? ⟨b, 0, none⟩ = some x ∧ W.cell? ⟨b, 1, none⟩ = some y ∧ W.cell? ⟨b, 2, none⟩ = some z ∧ W.frozen? ⟨b, 0, none⟩ = false ∧ W.frozen? ⟨b, 1, none⟩ = false ∧ W.frozen? ⟨b, 2, none⟩ = false := by
  refine ⟨?_, ?_, ?_, ?_, ?_, ?_⟩ <;> simp [World.cell?, World.frozen?, h]

set_option maxRecDepth 100000 in
set_option maxHeartbeats 4000000 in
theorem goesF_any (us : List Int) (a ga : Option Addr) (c gc Bs : Nat) (most : Int) (w : World) (hf : Fits us) (hl : us.length ≤ 1099511627776) (hcap : us.length ≤ c) (hcap2 : c ≤ maxLen) (hBs : Boxed w Bs 31 (.slice a us.length c)) (hrd : ReadsU w a us) (hma : MarksAt w us ga (wplaces us 0)) :
    Calls Try.prog 39 #[.func (.func 74) #[] #[.pointer (some ⟨Bs, 0, none⟩)], .slice ga (wplaces us 0).length gc, .bool false, .int .i64 most] w fun e w' => e = .returned (.bool true) ∧ Below w.heap.size w w' := by
  have hwl := wplaces_length us 0
  have hPL : (wplaces us 0).length ≤ 1099511627776 := by omega
  obtain ⟨L, hL, hLL, hLI⟩ : ∃ L, L = wplaces us 0 ∧ L.length = (wplaces us 0).length ∧ (∀ (k x : Nat), L[k]? = some x → (wplaces us 0)[k]? = some x) := ⟨_, rfl, by simp, by intro k x h; exact h⟩
  have hst := fun (n Bs : Nat) (hn : 1 ≤ n) (w : World) h1 h2 => forward_stops us a c n Bs hn hf hl hcap hcap2 w h1 h2
  rw [← hL] at hst
  rw [← hLL] at hPL ⊢
  have HST := hide hst
  have HLI := hide hLI
  have HMA := hide hma
  have HLL := hide hLL
  clear hst hL hLL hma hLI hwl hf hcap hcap2
  refine (callsIn_wide (n := 5)).1 ?_
  refine callsIn_of_wp_marks Try.func39 rfl trivial ?_ rfl
  simp only [Try.ntmps39, List.size_toArray, List.length_cons, List.length_nil, Nat.reduceAdd, Nat.reduceSub, Array.replicate_succ, Array.replicate_zero, List.push_toArray, List.append_toArray, List.nil_append, List.cons_append]
  have hF : ∀ f, Fence.wide.fn f := fun _ => trivial
  have hws := fun x w => goes_some 74 x w (by decide)
  gi_wp2
  obtain ⟨W0, hW0⟩ : ∃ W0, (((((w.alloc (Obj.cells #[Value.slice ga L.length gc] 40)).alloc (Obj.cells #[Value.bool false] 4)).alloc (Obj.cells #[Value.int IntKind.i64 most] 3)).alloc (Obj.cells #[Value.bool false] 4)).alloc (Obj.cells #[Value.int IntKind.i64 0] 3)) = W0 := ⟨_, rfl⟩
  have hB0 : Below w.heap.size w W0 := by rw [← hW0]; go_grown
  have b0 : W0.heap[w.heap.size]? = some (.cells #[.slice ga L.length gc] 40) := by rw [← hW0]; exact ((((Boxed.new w _ _).alloc _).alloc _).alloc _).alloc _
  have b1 : W0.heap[w.heap.size + 1]? = some (.cells #[.bool false] 4) := by rw [← hW0]; simpa [Boxed] using (((Boxed.new (w.alloc (Obj.cells #[Value.slice ga L.length gc] 40)) 4 (.bool false)).alloc (Obj.cells #[Value.int IntKind.i64 most] 3)).alloc (Obj.cells #[Value.bool false] 4)).alloc (Obj.cells #[Value.int IntKind.i64 0] 3)
  have b2 : W0.heap[w.heap.size + 2]? = some (.cells #[.int .i64 most] 3) := by rw [← hW0]; simpa [Boxed] using ((Boxed.new ((w.alloc (Obj.cells #[Value.slice ga L.length gc] 40)).alloc (Obj.cells #[Value.bool false] 4)) 3 (.int .i64 most)).alloc (Obj.cells #[Value.bool false] 4)).alloc (Obj.cells #[Value.int IntKind.i64 0] 3)
  have b3 : W0.heap[w.heap.size + 3]? = some (.cells #[.bool false] 4) := by rw [← hW0]; simpa [Boxed] using (Boxed.new (((w.alloc (Obj.cells #[Value.slice ga L.length gc] 40)).alloc (Obj.cells #[Value.bool false] 4)).alloc (Obj.cells #[Value.int IntKind.i64 most] 3)) 4 (.bool false)).alloc (Obj.cells #[Value.int IntKind.i64 0] 3)
  have b4 : W0.heap[w.heap.size + 4]? = some (.cells #[.int .i64 0] 3) := by rw [← hW0]; simpa [Boxed] using Boxed.new ((((w.alloc (Obj.cells #[Value.slice ga L.length gc] 40)).alloc (Obj.cells #[Value.bool false] 4)).alloc (Obj.cells #[Value.int IntKind.i64 most] 3)).alloc (Obj.cells #[Value.bool false] 4)) 3 (.int .i64 0)
  have hsz : W0.heap.size = w.heap.size + 5 := by rw [← hW0]; simp
  have hrd0 : ReadsU W0 a us := hrd.below hB0
  have hBs0 : Boxed W0 Bs 31 (.slice a us.length c) := (hB0.block Bs hBs.lt).trans hBs
  have hBlt := hBs.lt
  rw [hW0]
  clear hW0 hws
  refine wpIn_rangeFunc_ownG rfl (by omega) (gf := 74) (lb := #[.pointer (some ⟨Bs, 0, none⟩)]) rfl trivial (enters_of Try.func74 (by kernel_rfl) rfl)
    (unhide HST _ Bs (by omega) W0 hBs0 hrd0) kpU_t kpU_b (Below.refl _ _) (fun _ => rfl)
    (fun pre W => (pre.map (·.1) <+: L) ∧ W.heap[w.heap.size]? = some (.cells #[.slice ga L.length gc] 40) ∧ W.heap[w.heap.size + 1]? = some (.cells #[.bool false] 4) ∧ W.heap[w.heap.size + 2]? = some (.cells #[.int .i64 most] 3) ∧ W.heap[w.heap.size + 3]? = some (.cells #[.bool false] 4) ∧ W.heap[w.heap.size + 4]? = some (.cells #[.int .i64 (pre.length : Nat)] 3) ∧ Below w.heap.size w W)
    (fun c pre W => ∃ bv, (c = .ret ∧ (bv = true ∨ ¬ pre.map (·.1) <+: L)) ∧ W.heap[w.heap.size + 3]? = some (.cells #[.bool bv] 4) ∧ Below w.heap.size w W)
    ((own_pure _ _).and ((own_block _ _ _ rfl).and ((own_block _ _ _ rfl).and ((own_block _ _ _ rfl).and ((own_block _ _ _ rfl).and ((own_blockF _ _ _ (fun _ => rfl)).and (ownFrom_below (Nat.le_refl _) (by omega))))))))
    (fun c st A B row hx hg hr => by
        obtain ⟨bv, e1, e2, e3⟩ := hx
        exact ⟨bv, e1, own_block (β := Unit) _ _ _ rfl () A B row e2 hg hr, ownFrom_below (β := Unit) (Nat.le_refl _) (by omega) () A B row e3 hg hr⟩)
    ⟨by simp, b0, b1, b2, b3, b4, hB0⟩
    ?a1 ?assign ?body ?done ?stop
  case assign =>
    intro l x W K hK
    gi_wp2
    exact hK
  case body =>
    rintro l pre x W ⟨hpre, k0, k1, k2, k3, k4, hB⟩ hlen
    have c0 := (show Boxed W w.heap.size 40 (.slice ga L.length gc) from k0).cell
    have c1 := (show Boxed W (w.heap.size + 1) 4 (.bool false) from k1).cell
    have c2 := (show Boxed W (w.heap.size + 2) 3 (.int .i64 most) from k2).cell
    have c3 := (show Boxed W (w.heap.size + 3) 4 (.bool false) from k3).cell
    have f3 := (show Boxed W (w.heap.size + 3) 4 (.bool false) from k3).frozen
    have c4 := (show Boxed W (w.heap.size + 4) 3 (.int .i64 (pre.length : Nat)) from k4).cell
    have f4 := (show Boxed W (w.heap.size + 4) 3 (.int .i64 (pre.length : Nat)) from k4).frozen
    have K0 := hide k0
    have K1 := hide k1
    have K2 := hide k2
    have K3 := hide k3
    have K4 := hide k4
    have HPRE := hide hpre
    have hpl := front_len hpre
    have hNW := (Array.getElem?_eq_some_iff.1 k4).1
    clear k0 k1 k2 k3 k4 hpre
    by_cases hlt : pre.length < L.length
    · obtain ⟨y, hy⟩ : ∃ y, L[pre.length]? = some y := ⟨_, List.getElem?_eq_getElem hlt⟩
      have hd : decide ((L.length : Int) ≤ (pre.length : Int)) = false := by simp; omega
      obtain ⟨g, hgg, y0, y1, y2⟩ := ((unhide HMA).below hB) pre.length y (unhide HLI _ _ hy)
      subst hgg
      have o0 : ∀ o, (W.alloc o).heap[w.heap.size]? = some (.cells #[.slice (some ⟨g, 0, none⟩) L.length gc] 40) := fun o => alloc_old (unhide K0) o
      have o0c : ∀ o, (W.alloc o).cell? ⟨w.heap.size, 0, none⟩ = some (.slice (some ⟨g, 0, none⟩) L.length gc) := fun o => (show Boxed _ (w.heap.size) 40 (.slice (some ⟨g, 0, none⟩) L.length gc) from o0 o).cell
      have o1 : ∀ o, (W.alloc o).heap[w.heap.size + 1]? = some (.cells #[.bool false] 4) := fun o => alloc_old (unhide K1) o
      have o1c : ∀ o, (W.alloc o).cell? ⟨w.heap.size + 1, 0, none⟩ = some (.bool false) := fun o => (show Boxed _ (w.heap.size + 1) 4 (.bool false) from o1 o).cell
      have o3 : ∀ o, (W.alloc o).heap[w.heap.size + 3]? = some (.cells #[.bool false] 4) := fun o => alloc_old (unhide K3) o
      have o3c : ∀ o, (W.alloc o).cell? ⟨w.heap.size + 3, 0, none⟩ = some (.bool false) := fun o => (show Boxed _ (w.heap.size + 3) 4 (.bool false) from o3 o).cell
      have o3f : ∀ o, (W.alloc o).frozen? ⟨w.heap.size + 3, 0, none⟩ = false := fun o => (show Boxed _ (w.heap.size + 3) 4 (.bool false) from o3 o).frozen
      have o4 : ∀ o, (W.alloc o).heap[w.heap.size + 4]? = some (.cells #[.int .i64 (pre.length : Nat)] 3) := fun o => alloc_old (unhide K4) o
      have o4c : ∀ o, (W.alloc o).cell? ⟨w.heap.size + 4, 0, none⟩ = some (.int .i64 (pre.length : Nat)) := fun o => (show Boxed _ (w.heap.size + 4) 3 (.int .i64 (pre.length : Nat)) from o4 o).cell
      have o4f : ∀ o, (W.alloc o).frozen? ⟨w.heap.size + 4, 0, none⟩ = false := fun o => (show Boxed _ (w.heap.size + 4) 3 (.int .i64 (pre.length : Nat)) from o4 o).frozen
      have s0 : ∀ o, ((W.setCell ⟨w.heap.size + 4, 0, none⟩ (.int .i64 ((pre.length : Int) + 1))).alloc o).heap[w.heap.size]? = some (.cells #[.slice (some ⟨g, 0, none⟩) L.length gc] 40) := fun o => alloc_old ((Below.heap_setCell _ _ _ _ (by simp)).trans (unhide K0)) o
      have s1 : ∀ o, ((W.setCell ⟨w.heap.size + 4, 0, none⟩ (.int .i64 ((pre.length : Int) + 1))).alloc o).heap[w.heap.size + 1]? = some (.cells #[.bool false] 4) := fun o => alloc_old ((Below.heap_setCell _ _ _ _ (by simp)).trans (unhide K1)) o
      have s2 : ∀ o, ((W.setCell ⟨w.heap.size + 4, 0, none⟩ (.int .i64 ((pre.length : Int) + 1))).alloc o).heap[w.heap.size + 2]? = some (.cells #[.int .i64 most] 3) := fun o => alloc_old ((Below.heap_setCell _ _ _ _ (by simp)).trans (unhide K2)) o
      have s2c : ∀ o, ((W.setCell ⟨w.heap.size + 4, 0, none⟩ (.int .i64 ((pre.length : Int) + 1))).alloc o).cell? ⟨w.heap.size + 2, 0, none⟩ = some (.int .i64 most) := fun o => (show Boxed _ (w.heap.size + 2) 3 (.int .i64 most) from s2 o).cell
      have s3 : ∀ o, ((W.setCell ⟨w.heap.size + 4, 0, none⟩ (.int .i64 ((pre.length : Int) + 1))).alloc o).heap[w.heap.size + 3]? = some (.cells #[.bool false] 4) := fun o => alloc_old ((Below.heap_setCell _ _ _ _ (by simp)).trans (unhide K3)) o
      have s3c : ∀ o, ((W.setCell ⟨w.heap.size + 4, 0, none⟩ (.int .i64 ((pre.length : Int) + 1))).alloc o).cell? ⟨w.heap.size + 3, 0, none⟩ = some (.bool false) := fun o => (show Boxed _ (w.heap.size + 3) 4 (.bool false) from s3 o).cell
      have s3f : ∀ o, ((W.setCell ⟨w.heap.size + 4, 0, none⟩ (.int .i64 ((pre.length : Int) + 1))).alloc o).frozen? ⟨w.heap.size + 3, 0, none⟩ = false := fun o => (show Boxed _ (w.heap.size + 3) 4 (.bool false) from s3 o).frozen
      have s4 : ∀ o, ((W.setCell ⟨w.heap.size + 4, 0, none⟩ (.int .i64 ((pre.length : Int) + 1))).alloc o).heap[w.heap.size + 4]? = some (.cells #[.int .i64 ((pre.length : Int) + 1)] 3) := fun o => alloc_old (blk_set (i := 0) _ (unhide K4)) o
      have s4c : ∀ o, ((W.setCell ⟨w.heap.size + 4, 0, none⟩ (.int .i64 ((pre.length : Int) + 1))).alloc o).cell? ⟨w.heap.size + 4, 0, none⟩ = some (.int .i64 ((pre.length : Int) + 1)) := fun o => (show Boxed _ (w.heap.size + 4) 3 (.int .i64 ((pre.length : Int) + 1)) from s4 o).cell
      have S0 := hide s0
      have S1 := hide s1
      have S2 := hide s2
      have S3 := hide s3
      have S4 := hide s4
      clear s0 s1 s2 s3 s4 o0 o1 o3 o4
      have hbs := hB.size
      by_cases he : x.1 = y
      · have HNX := hide (front_next (unhide HPRE) (by rw [hy, he]))
        rw [← he] at y0 y1 y2
        have q0 : (((x.1 : Nat) : Int) != ((x.1 : Nat) : Int)) = false := by simp
        have q1 : (rA us x.1 != rA us x.1) = false := by simp
        have HE := hide he
        clear he hy
        by_cases hm : ((pre.length : Int) + 1) = most
        · have q2 : (((pre.length : Int) + 1) == most) = true := by simpa using hm
          have HM := hide hm
          clear hm
          gi_wp2
          refine ⟨(((KeepsOthers.setCell _ _ _).trans (KeepsOthers.alloc _ _)).trans (KeepsOthers.setCell _ _ _)).from _, true, ⟨rfl, .inl rfl⟩, ?_, ?_⟩
          · exact blk_set (i := 0) _ (unhide S3 _)
          · exact ((hB.setCell (p := ⟨w.heap.size + 4, 0, none⟩) (by simp) _).alloc (by simp; omega) _).setCell (p := ⟨w.heap.size + 3, 0, none⟩) (by simp) _
        · have q2 : (((pre.length : Int) + 1) == most) = false := by simpa using hm
          have HM := hide hm
          clear hm
          gi_wp2
          have hbN : ∀ o, Below w.heap.size w ((W.setCell ⟨w.heap.size + 4, 0, none⟩ (.int .i64 ((pre.length : Int) + 1))).alloc o) := fun o => (hB.setCell (p := ⟨w.heap.size + 4, 0, none⟩) (by simp) _).alloc (by simp; omega) o
          refine ⟨((KeepsOthers.setCell _ _ _).trans (KeepsOthers.alloc _ _)).from _, ⟨((KeepsOthers.setCell _ _ _).trans (KeepsOthers.alloc _ _)).walks, fun _ => ((hbN _).block Bs hBlt).trans hBs, fun _ => hrd.below (hbN _)⟩, unhide HNX, unhide S0 _, unhide S1 _, unhide S2 _, unhide S3 _, ?_, hbN _⟩
          rw [List.length_append]
          exact unhide S4 _
      · have HNO := hide (front_not (x := x) (pre := pre) (L := L) (by rw [hy]; simp; omega))
        have q0 : (((x.1 : Nat) : Int) != ((y : Nat) : Int)) = true := by simp; omega
        have HE := hide he
        clear he hy
        gi_wp2
        refine ⟨((KeepsOthers.alloc _ _).trans (KeepsOthers.setCell _ _ _)).from _, false, ⟨rfl, .inr (unhide HNO)⟩, ?_, ?_⟩
        · exact blk_set (i := 0) _ (alloc_old (unhide K3) _)
        · exact (hB.alloc (by omega) _).setCell (p := ⟨w.heap.size + 3, 0, none⟩) (by simp) _
    · have HNO := hide (front_not (x := x) (pre := pre) (L := L) (by rw [List.getElem?_eq_none (by omega)]; simp))
      have hd : decide ((L.length : Int) ≤ (pre.length : Int)) = true := by simp; omega
      gi_wp2
      refine ⟨(KeepsOthers.setCell _ _ _).from _, false, ⟨rfl, .inr (unhide HNO)⟩, ?_, ?_⟩
      · exact blk_set (i := 0) _ (unhide K3)
      · exact hB.setCell (p := ⟨w.heap.size + 3, 0, none⟩) (by simp) _
  case done =>
    rintro D ys W hD hS ⟨hpre, k0, k1, k2, k3, k4, hB⟩ hK
    have hyl : ys.length = L.length := by rw [← hS]; simp
    rw [hyl] at k4
    have c0 := (show Boxed W w.heap.size 40 (.slice ga L.length gc) from k0).cell
    have c3 := (show Boxed W (w.heap.size + 3) 4 (.bool false) from k3).cell
    have f3 := (show Boxed W (w.heap.size + 3) 4 (.bool false) from k3).frozen
    have c4 := (show Boxed W (w.heap.size + 4) 3 (.int .i64 (L.length : Nat)) from k4).cell
    have q : ((L.length : Int) == (L.length : Int)) = true := by simp
    have HS := hide hS
    have HY := hide hyl
    have HPRE := hide hpre
    clear hS hyl hpre
    gi_wp2
    have hK' := (KeepsOthers.setCell W ⟨w.heap.size + 3, 0, none⟩ (.bool true)).same D _ hK rfl
    have hB5 := hB.setCell (p := ⟨w.heap.size + 3, 0, none⟩) (by simp) (.bool true)
    have t1 := blk_set (i := 0) (.bool true) k3
    generalize W.setCell ⟨w.heap.size + 3, 0, none⟩ (.bool true) = W5 at *
    refine ⟨by simp, .inl ⟨_, _, rfl, run_takeDeferred hK', ?_⟩⟩
    have t1' : Boxed (W5.putObj D (.deferred none)) (w.heap.size + 3) 4 (.bool true) := (World.putObj_heap_other (by omega)).trans t1
    have q1 := t1'.cell
    refine ⟨.bool true, ?_, rfl, hB5.trans (belowK_b (w := w) (Nat.le_refl _) _ D _ _ (by omega) hK' rfl rfl)⟩
    simp [results, Try.f39, go_sem, q1]
  case stop =>
    rintro D c pre W hD hfr ⟨bv, ⟨rfl, hbv⟩, k3, hB⟩ hK
    obtain rfl : bv = true := by
      rcases hbv with h | h
      · exact h
      · exact absurd hfr h
    clear hbv hfr
    gi_wp2
    refine ⟨by simp, .inl ⟨_, _, rfl, run_takeDeferred hK, ?_⟩⟩
    have t1 : Boxed (W.putObj D (.deferred none)) (w.heap.size + 3) 4 (.bool true) := (World.putObj_heap_other (by omega)).trans k3
    have q1 := t1.cell
    refine ⟨.bool true, ?_, rfl, hB.trans (belowK_b (w := w) (Nat.le_refl _) _ D _ _ (by omega) hK rfl rfl)⟩
    simp [results, Try.f39, go_sem, q1]

set_option maxRecDepth 100000 in
set_option maxHeartbeats 4000000 in
theorem goesB_any (us : List Int) (a ga : Option Addr) (c gc Bs : Nat) (most : Int) (w : World) (hf : Fits us) (hl : us.length ≤ 1099511627776) (hcap : us.length ≤ c) (hcap2 : c ≤ maxLen) (hBs : Boxed w Bs 31 (.slice a us.length c)) (hrd : ReadsU w a us) (hma : MarksAt w us ga (wplaces us 0)) :
    Calls Try.prog 39 #[.func (.func 78) #[] #[.pointer (some ⟨Bs, 0, none⟩)], .slice ga (wplaces us 0).length gc, .bool true, .int .i64 most] w fun e w' => e = .returned (.bool true) ∧ Below w.heap.size w w' := by
  have hwl := wplaces_length us 0
  have hPL : (wplaces us 0).length ≤ 1099511627776 := by omega
  obtain ⟨L, hL, hLL, hLI⟩ : ∃ L, L = (wplaces us 0).reverse ∧ L.length = (wplaces us 0).length ∧ (∀ (k x : Nat), L[k]? = some x → (wplaces us 0)[L.length - 1 - k]? = some x) := ⟨_, rfl, by simp, by intro k x h; have hk := (List.getElem?_eq_some_iff.1 h).1; rw [List.getElem?_reverse (by simpa using hk)] at h; simpa using h⟩
  have hst := fun (n Bs : Nat) (hn : 1 ≤ n) (w : World) h1 h2 => backward_stops us a c n Bs hn hf hl hcap hcap2 w h1 h2
  rw [← hL] at hst
  rw [← hLL] at hPL ⊢
  have HST := hide hst
  have HLI := hide hLI
  have HMA := hide hma
  have HLL := hide hLL
  clear hst hL hLL hma hLI hwl hf hcap hcap2
  refine (callsIn_wide (n := 5)).1 ?_
  refine callsIn_of_wp_marks Try.func39 rfl trivial ?_ rfl
  simp only [Try.ntmps39, List.size_toArray, List.length_cons, List.length_nil, Nat.reduceAdd, Nat.reduceSub, Array.replicate_succ, Array.replicate_zero, List.push_toArray, List.append_toArray, List.nil_append, List.cons_append]
  have hF : ∀ f, Fence.wide.fn f := fun _ => trivial
  have hws := fun x w => goes_some 78 x w (by decide)
  gi_wp2
  obtain ⟨W0, hW0⟩ : ∃ W0, (((((w.alloc (Obj.cells #[Value.slice ga L.length gc] 40)).alloc (Obj.cells #[Value.bool true] 4)).alloc (Obj.cells #[Value.int IntKind.i64 most] 3)).alloc (Obj.cells #[Value.bool false] 4)).alloc (Obj.cells #[Value.int IntKind.i64 0] 3)) = W0 := ⟨_, rfl⟩
  have hB0 : Below w.heap.size w W0 := by rw [← hW0]; go_grown
  have b0 : W0.heap[w.heap.size]? = some (.cells #[.slice ga L.length gc] 40) := by rw [← hW0]; exact ((((Boxed.new w _ _).alloc _).alloc _).alloc _).alloc _
  have b1 : W0.heap[w.heap.size + 1]? = some (.cells #[.bool true] 4) := by rw [← hW0]; simpa [Boxed] using (((Boxed.new (w.alloc (Obj.cells #[Value.slice ga L.length gc] 40)) 4 (.bool true)).alloc (Obj.cells #[Value.int IntKind.i64 most] 3)).alloc (Obj.cells #[Value.bool false] 4)).alloc (Obj.cells #[Value.int IntKind.i64 0] 3)
  have b2 : W0.heap[w.heap.size + 2]? = some (.cells #[.int .i64 most] 3) := by rw [← hW0]; simpa [Boxed] using ((Boxed.new ((w.alloc (Obj.cells #[Value.slice ga L.length gc] 40)).alloc (Obj.cells #[Value.bool true] 4)) 3 (.int .i64 most)).alloc (Obj.cells #[Value.bool false] 4)).alloc (Obj.cells #[Value.int IntKind.i64 0] 3)
  have b3 : W0.heap[w.heap.size + 3]? = some (.cells #[.bool false] 4) := by rw [← hW0]; simpa [Boxed] using (Boxed.new (((w.alloc (Obj.cells #[Value.slice ga L.length gc] 40)).alloc (Obj.cells #[Value.bool true] 4)).alloc (Obj.cells #[Value.int IntKind.i64 most] 3)) 4 (.bool false)).alloc (Obj.cells #[Value.int IntKind.i64 0] 3)
  have b4 : W0.heap[w.heap.size + 4]? = some (.cells #[.int .i64 0] 3) := by rw [← hW0]; simpa [Boxed] using Boxed.new ((((w.alloc (Obj.cells #[Value.slice ga L.length gc] 40)).alloc (Obj.cells #[Value.bool true] 4)).alloc (Obj.cells #[Value.int IntKind.i64 most] 3)).alloc (Obj.cells #[Value.bool false] 4)) 3 (.int .i64 0)
  have hsz : W0.heap.size = w.heap.size + 5 := by rw [← hW0]; simp
  have hrd0 : ReadsU W0 a us := hrd.below hB0
  have hBs0 : Boxed W0 Bs 31 (.slice a us.length c) := (hB0.block Bs hBs.lt).trans hBs
  have hBlt := hBs.lt
  rw [hW0]
  clear hW0 hws
  refine wpIn_rangeFunc_ownG rfl (by omega) (gf := 78) (lb := #[.pointer (some ⟨Bs, 0, none⟩)]) rfl trivial (enters_of Try.func78 (by kernel_rfl) rfl)
    (unhide HST _ Bs (by omega) W0 hBs0 hrd0) kpU_t kpU_b (Below.refl _ _) (fun _ => rfl)
    (fun pre W => (pre.map (·.1) <+: L) ∧ W.heap[w.heap.size]? = some (.cells #[.slice ga L.length gc] 40) ∧ W.heap[w.heap.size + 1]? = some (.cells #[.bool true] 4) ∧ W.heap[w.heap.size + 2]? = some (.cells #[.int .i64 most] 3) ∧ W.heap[w.heap.size + 3]? = some (.cells #[.bool false] 4) ∧ W.heap[w.heap.size + 4]? = some (.cells #[.int .i64 (pre.length : Nat)] 3) ∧ Below w.heap.size w W)
    (fun c pre W => ∃ bv, (c = .ret ∧ (bv = true ∨ ¬ pre.map (·.1) <+: L)) ∧ W.heap[w.heap.size + 3]? = some (.cells #[.bool bv] 4) ∧ Below w.heap.size w W)
    ((own_pure _ _).and ((own_block _ _ _ rfl).and ((own_block _ _ _ rfl).and ((own_block _ _ _ rfl).and ((own_block _ _ _ rfl).and ((own_blockF _ _ _ (fun _ => rfl)).and (ownFrom_below (Nat.le_refl _) (by omega))))))))
    (fun c st A B row hx hg hr => by
        obtain ⟨bv, e1, e2, e3⟩ := hx
        exact ⟨bv, e1, own_block (β := Unit) _ _ _ rfl () A B row e2 hg hr, ownFrom_below (β := Unit) (Nat.le_refl _) (by omega) () A B row e3 hg hr⟩)
    ⟨by simp, b0, b1, b2, b3, b4, hB0⟩
    ?a1 ?assign ?body ?done ?stop
  case assign =>
    intro l x W K hK
    gi_wp2
    exact hK
  case body =>
    rintro l pre x W ⟨hpre, k0, k1, k2, k3, k4, hB⟩ hlen
    have c0 := (show Boxed W w.heap.size 40 (.slice ga L.length gc) from k0).cell
    have c1 := (show Boxed W (w.heap.size + 1) 4 (.bool true) from k1).cell
    have c2 := (show Boxed W (w.heap.size + 2) 3 (.int .i64 most) from k2).cell
    have c3 := (show Boxed W (w.heap.size + 3) 4 (.bool false) from k3).cell
    have f3 := (show Boxed W (w.heap.size + 3) 4 (.bool false) from k3).frozen
    have c4 := (show Boxed W (w.heap.size + 4) 3 (.int .i64 (pre.length : Nat)) from k4).cell
    have f4 := (show Boxed W (w.heap.size + 4) 3 (.int .i64 (pre.length : Nat)) from k4).frozen
    have K0 := hide k0
    have K1 := hide k1
    have K2 := hide k2
    have K3 := hide k3
    have K4 := hide k4
    have HPRE := hide hpre
    have hpl := front_len hpre
    have hNW := (Array.getElem?_eq_some_iff.1 k4).1
    clear k0 k1 k2 k3 k4 hpre
    by_cases hlt : pre.length < L.length
    · obtain ⟨y, hy⟩ : ∃ y, L[pre.length]? = some y := ⟨_, List.getElem?_eq_getElem hlt⟩
      have hd : decide ((L.length : Int) ≤ (pre.length : Int)) = false := by simp; omega
      have hrev := unhide HLI _ _ hy
      obtain ⟨z, hz⟩ : ∃ z, (wplaces us 0)[pre.length]? = some z := ⟨_, List.getElem?_eq_getElem (by rw [← unhide HLL]; exact hlt)⟩
      obtain ⟨g, hgg, y0, y1, y2⟩ := ((unhide HMA).below hB) (L.length - 1 - pre.length) y hrev
      obtain ⟨g', hgg', z0, z1, z2⟩ := ((unhide HMA).below hB) pre.length z hz
      subst hgg
      obtain rfl : g = g' := by simpa using hgg'
      generalize hQ : L.length - 1 - pre.length = Q at *
      have hQi : (L.length : Int) - 1 - (pre.length : Int) = (Q : Int) := by omega
      have hQl : Q < L.length := by omega
      have hQ0 : (0 : Int) ≤ (L.length : Int) - 1 := by omega
      have HQ := hide hQ
      clear hgg' hz hrev hQ
      have hgl : g < W.heap.size := by
        refine Decidable.byContradiction fun hn => ?_
        have hnn : W.heap[g]? = none := Array.getElem?_eq_none (by omega)
        simp [World.cell?, hnn] at y0
      have v0 : ∀ o, (W.alloc o).cell? ⟨g, Q * 3, none⟩ = some (.int .i64 (y : Nat)) := fun o => (((Below.refl W.heap.size W).alloc (Nat.le_refl _) o).cell (p := ⟨g, Q * 3, none⟩) hgl).trans y0
      have v1 : ∀ o, (W.alloc o).cell? ⟨g, Q * 3 + 1, none⟩ = some (.int .i32 (rA us y)) := fun o => (((Below.refl W.heap.size W).alloc (Nat.le_refl _) o).cell (p := ⟨g, Q * 3 + 1, none⟩) hgl).trans y1
      have v2 : ∀ o, (W.alloc o).cell? ⟨g, Q * 3 + 2, none⟩ = some (.int .i64 (cA us y)) := fun o => (((Below.refl W.heap.size W).alloc (Nat.le_refl _) o).cell (p := ⟨g, Q * 3 + 2, none⟩) hgl).trans y2
      have o0 : ∀ o, (W.alloc o).heap[w.heap.size]? = some (.cells #[.slice (some ⟨g, 0, none⟩) L.length gc] 40) := fun o => alloc_old (unhide K0) o
      have o0c : ∀ o, (W.alloc o).cell? ⟨w.heap.size, 0, none⟩ = some (.slice (some ⟨g, 0, none⟩) L.length gc) := fun o => (show Boxed _ (w.heap.size) 40 (.slice (some ⟨g, 0, none⟩) L.length gc) from o0 o).cell
      have o1 : ∀ o, (W.alloc o).heap[w.heap.size + 1]? = some (.cells #[.bool true] 4) := fun o => alloc_old (unhide K1) o
      have o1c : ∀ o, (W.alloc o).cell? ⟨w.heap.size + 1, 0, none⟩ = some (.bool true) := fun o => (show Boxed _ (w.heap.size + 1) 4 (.bool true) from o1 o).cell
      have o3 : ∀ o, (W.alloc o).heap[w.heap.size + 3]? = some (.cells #[.bool false] 4) := fun o => alloc_old (unhide K3) o
      have o3c : ∀ o, (W.alloc o).cell? ⟨w.heap.size + 3, 0, none⟩ = some (.bool false) := fun o => (show Boxed _ (w.heap.size + 3) 4 (.bool false) from o3 o).cell
      have o3f : ∀ o, (W.alloc o).frozen? ⟨w.heap.size + 3, 0, none⟩ = false := fun o => (show Boxed _ (w.heap.size + 3) 4 (.bool false) from o3 o).frozen
      have o4 : ∀ o, (W.alloc o).heap[w.heap.size + 4]? = some (.cells #[.int .i64 (pre.length : Nat)] 3) := fun o => alloc_old (unhide K4) o
      have o4c : ∀ o, (W.alloc o).cell? ⟨w.heap.size + 4, 0, none⟩ = some (.int .i64 (pre.length : Nat)) := fun o => (show Boxed _ (w.heap.size + 4) 3 (.int .i64 (pre.length : Nat)) from o4 o).cell
      have o4f : ∀ o, (W.alloc o).frozen? ⟨w.heap.size + 4, 0, none⟩ = false := fun o => (show Boxed _ (w.heap.size + 4) 3 (.int .i64 (pre.length : Nat)) from o4 o).frozen
      have s0 : ∀ o, ((W.setCell ⟨w.heap.size + 4, 0, none⟩ (.int .i64 ((pre.length : Int) + 1))).alloc o).heap[w.heap.size]? = some (.cells #[.slice (some ⟨g, 0, none⟩) L.length gc] 40) := fun o => alloc_old ((Below.heap_setCell _ _ _ _ (by simp)).trans (unhide K0)) o
      have s1 : ∀ o, ((W.setCell ⟨w.heap.size + 4, 0, none⟩ (.int .i64 ((pre.length : Int) + 1))).alloc o).heap[w.heap.size + 1]? = some (.cells #[.bool true] 4) := fun o => alloc_old ((Below.heap_setCell _ _ _ _ (by simp)).trans (unhide K1)) o
      have s2 : ∀ o, ((W.setCell ⟨w.heap.size + 4, 0, none⟩ (.int .i64 ((pre.length : Int) + 1))).alloc o).heap[w.heap.size + 2]? = some (.cells #[.int .i64 most] 3) := fun o => alloc_old ((Below.heap_setCell _ _ _ _ (by simp)).trans (unhide K2)) o
      have s2c : ∀ o, ((W.setCell ⟨w.heap.size + 4, 0, none⟩ (.int .i64 ((pre.length : Int) + 1))).alloc o).cell? ⟨w.heap.size + 2, 0, none⟩ = some (.int .i64 most) := fun o => (show Boxed _ (w.heap.size + 2) 3 (.int .i64 most) from s2 o).cell
      have s3 : ∀ o, ((W.setCell ⟨w.heap.size + 4, 0, none⟩ (.int .i64 ((pre.length : Int) + 1))).alloc o).heap[w.heap.size + 3]? = some (.cells #[.bool false] 4) := fun o => alloc_old ((Below.heap_setCell _ _ _ _ (by simp)).trans (unhide K3)) o
      have s3c : ∀ o, ((W.setCell ⟨w.heap.size + 4, 0, none⟩ (.int .i64 ((pre.length : Int) + 1))).alloc o).cell? ⟨w.heap.size + 3, 0, none⟩ = some (.bool false) := fun o => (show Boxed _ (w.heap.size + 3) 4 (.bool false) from s3 o).cell
      have s3f : ∀ o, ((W.setCell ⟨w.heap.size + 4, 0, none⟩ (.int .i64 ((pre.length : Int) + 1))).alloc o).frozen? ⟨w.heap.size + 3, 0, none⟩ = false := fun o => (show Boxed _ (w.heap.size + 3) 4 (.bool false) from s3 o).frozen
      have s4 : ∀ o, ((W.setCell ⟨w.heap.size + 4, 0, none⟩ (.int .i64 ((pre.length : Int) + 1))).alloc o).heap[w.heap.size + 4]? = some (.cells #[.int .i64 ((pre.length : Int) + 1)] 3) := fun o => alloc_old (blk_set (i := 0) _ (unhide K4)) o
      have s4c : ∀ o, ((W.setCell ⟨w.heap.size + 4, 0, none⟩ (.int .i64 ((pre.length : Int) + 1))).alloc o).cell? ⟨w.heap.size + 4, 0, none⟩ = some (.int .i64 ((pre.length : Int) + 1)) := fun o => (show Boxed _ (w.heap.size + 4) 3 (.int .i64 ((pre.length : Int) + 1)) from s4 o).cell
      have S0 := hide s0
      have S1 := hide s1
      have S2 := hide s2
      have S3 := hide s3
      have S4 := hide s4
      clear s0 s1 s2 s3 s4 o0 o1 o3 o4
      have hbs := hB.size
      by_cases he : x.1 = y
      · have HNX := hide (front_next (unhide HPRE) (by rw [hy, he]))
        rw [← he] at y0 y1 y2 v0 v1 v2
        have q0 : (((x.1 : Nat) : Int) != ((x.1 : Nat) : Int)) = false := by simp
        have q1 : (rA us x.1 != rA us x.1) = false := by simp
        have HE := hide he
        clear he hy
        by_cases hm : ((pre.length : Int) + 1) = most
        · have q2 : (((pre.length : Int) + 1) == most) = true := by simpa using hm
          have HM := hide hm
          clear hm
          gi_wp2
          refine ⟨(((KeepsOthers.setCell _ _ _).trans (KeepsOthers.alloc _ _)).trans (KeepsOthers.setCell _ _ _)).from _, true, ⟨rfl, .inl rfl⟩, ?_, ?_⟩
          · exact blk_set (i := 0) _ (unhide S3 _)
          · exact ((hB.setCell (p := ⟨w.heap.size + 4, 0, none⟩) (by simp) _).alloc (by simp; omega) _).setCell (p := ⟨w.heap.size + 3, 0, none⟩) (by simp) _
        · have q2 : (((pre.length : Int) + 1) == most) = false := by simpa using hm
          have HM := hide hm
          clear hm
          gi_wp2
          have hbN : ∀ o, Below w.heap.size w ((W.setCell ⟨w.heap.size + 4, 0, none⟩ (.int .i64 ((pre.length : Int) + 1))).alloc o) := fun o => (hB.setCell (p := ⟨w.heap.size + 4, 0, none⟩) (by simp) _).alloc (by simp; omega) o
          refine ⟨((KeepsOthers.setCell _ _ _).trans (KeepsOthers.alloc _ _)).from _, ⟨((KeepsOthers.setCell _ _ _).trans (KeepsOthers.alloc _ _)).walks, fun _ => ((hbN _).block Bs hBlt).trans hBs, fun _ => hrd.below (hbN _)⟩, unhide HNX, unhide S0 _, unhide S1 _, unhide S2 _, unhide S3 _, ?_, hbN _⟩
          rw [List.length_append]
          exact unhide S4 _
      · have HNO := hide (front_not (x := x) (pre := pre) (L := L) (by rw [hy]; simp; omega))
        have q0 : (((x.1 : Nat) : Int) != ((y : Nat) : Int)) = true := by simp; omega
        have HE := hide he
        clear he hy
        gi_wp2
        refine ⟨((KeepsOthers.alloc _ _).trans (KeepsOthers.setCell _ _ _)).from _, false, ⟨rfl, .inr (unhide HNO)⟩, ?_, ?_⟩
        · exact blk_set (i := 0) _ (alloc_old (unhide K3) _)
        · exact (hB.alloc (by omega) _).setCell (p := ⟨w.heap.size + 3, 0, none⟩) (by simp) _
    · have HNO := hide (front_not (x := x) (pre := pre) (L := L) (by rw [List.getElem?_eq_none (by omega)]; simp))
      have hd : decide ((L.length : Int) ≤ (pre.length : Int)) = true := by simp; omega
      gi_wp2
      refine ⟨(KeepsOthers.setCell _ _ _).from _, false, ⟨rfl, .inr (unhide HNO)⟩, ?_, ?_⟩
      · exact blk_set (i := 0) _ (unhide K3)
      · exact hB.setCell (p := ⟨w.heap.size + 3, 0, none⟩) (by simp) _
  case done =>
    rintro D ys W hD hS ⟨hpre, k0, k1, k2, k3, k4, hB⟩ hK
    have hyl : ys.length = L.length := by rw [← hS]; simp
    rw [hyl] at k4
    have c0 := (show Boxed W w.heap.size 40 (.slice ga L.length gc) from k0).cell
    have c3 := (show Boxed W (w.heap.size + 3) 4 (.bool false) from k3).cell
    have f3 := (show Boxed W (w.heap.size + 3) 4 (.bool false) from k3).frozen
    have c4 := (show Boxed W (w.heap.size + 4) 3 (.int .i64 (L.length : Nat)) from k4).cell
    have q : ((L.length : Int) == (L.length : Int)) = true := by simp
    have HS := hide hS
    have HY := hide hyl
    have HPRE := hide hpre
    clear hS hyl hpre
    gi_wp2
    have hK' := (KeepsOthers.setCell W ⟨w.heap.size + 3, 0, none⟩ (.bool true)).same D _ hK rfl
    have hB5 := hB.setCell (p := ⟨w.heap.size + 3, 0, none⟩) (by simp) (.bool true)
    have t1 := blk_set (i := 0) (.bool true) k3
    generalize W.setCell ⟨w.heap.size + 3, 0, none⟩ (.bool true) = W5 at *
    refine ⟨by simp, .inl ⟨_, _, rfl, run_takeDeferred hK', ?_⟩⟩
    have t1' : Boxed (W5.putObj D (.deferred none)) (w.heap.size + 3) 4 (.bool true) := (World.putObj_heap_other (by omega)).trans t1
    have q1 := t1'.cell
    refine ⟨.bool true, ?_, rfl, hB5.trans (belowK_b (w := w) (Nat.le_refl _) _ D _ _ (by omega) hK' rfl rfl)⟩
    simp [results, Try.f39, go_sem, q1]
  case stop =>
    rintro D c pre W hD hfr ⟨bv, ⟨rfl, hbv⟩, k3, hB⟩ hK
    obtain rfl : bv = true := by
      rcases hbv with h | h
      · exact h
      · exact absurd hfr h
    clear hbv hfr
    gi_wp2
    refine ⟨by simp, .inl ⟨_, _, rfl, run_takeDeferred hK, ?_⟩⟩
    have t1 : Boxed (W.putObj D (.deferred none)) (w.heap.size + 3) 4 (.bool true) := (World.putObj_heap_other (by omega)).trans k3
    have q1 := t1.cell
    refine ⟨.bool true, ?_, rfl, hB.trans (belowK_b (w := w) (Nat.le_refl _) _ D _ _ (by omega) hK rfl rfl)⟩
    simp [results, Try.f39, go_sem, q1]

end Go.Proofs.Ytghcheoholkpbaa
