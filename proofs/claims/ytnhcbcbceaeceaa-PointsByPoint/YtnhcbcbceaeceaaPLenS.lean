/-
  Len of a map.
-/
import Derived.Test.YtnhcbcbceaeceaaPStr2S
namespace Go.Proofs.Ytnhcbcbceaeceaa.VS
open Go.RowKit Go.PlainAid Go.Lib Go.PRow Go.Shelf Go.Seq4
attribute [local go_sem] Oper.semAt_some
set_option linter.unusedVariables false
set_option linter.unusedSimpArgs false

/-- Len of a map -/
theorem len_map (b : Nat) (v : Value) (B : Nat) (ps : List (Pc ByteArray)) (o : OkP ps) (w : World) (h : IsMap w b v) (hr : RowP w B v ps) :
    Calls Try.prog 17 #[.pointer (some ⟨b, 0, none⟩)] w fun e w' => e = .returned (.int .i64 ((strsP eqv ps).length : Nat)) ∧ Below w.heap.size w w' := by
  have hlen : (strsP eqv ps).length ≤ 1114112 := Nat.le_trans (strs_len eqv ps) (okP_len o)
  have hbl := h.lt
  have hB1 : Below w.heap.size w (w.alloc (.cells #[.int .i64 0] 3)) := (Below.refl _ w).alloc (Nat.le_refl _) _
  have HH := hide (held_map b v _ (h.below hB1))
  have hr1 := hr.below hB1
  obtain ⟨a, cap, rfl, hc1, hc2, -, -⟩ := hr.form
  have HS := hide (fun V => str_in a ps.length cap V)
  refine (callsIn_wide (n := 6)).1 ?_
  refine callsIn_of_wp_marks Try.func17 rfl trivial ?_ rfl
  simp only [Try.ntmps17, List.size_toArray, List.length_cons, List.length_nil, Nat.reduceAdd, Nat.reduceSub, Array.replicate_succ, Array.replicate_zero, List.push_toArray, List.append_toArray, List.nil_append, List.cons_append]
  have hF : ∀ f, Fence.wide.fn f := fun _ => trivial
  gi_wp2_with (first | (gi_at_call 33; refine (callsIn_wide.2 (unhide HH)).mono ?_; rintro e w' ⟨rfl, rfl⟩) | (gi_at_call 38; refine (callsIn_wide.2 (unhide HS _)).mono ?_; rintro e w' ⟨rfl, rfl⟩))
  obtain ⟨W0, hW0⟩ : ∃ W0, (w.alloc (.cells #[.int .i64 0] 3)).alloc (.cells #[.slice a ps.length cap] 71) = W0 := ⟨_, rfl⟩
  have hsz : W0.heap.size = w.heap.size + 2 := by rw [← hW0]; simp
  have hB0 : Below w.heap.size w W0 := by rw [← hW0]; exact hB1.alloc (by simp) _
  have b0 : W0.heap[w.heap.size]? = some (.cells #[.int .i64 0] 3 (0, 0)) := by rw [← hW0]; exact (Below.heap_alloc _ _ _ (by simp)).trans (heap_alloc_new w _)
  have b1 : W0.heap[w.heap.size + 1]? = some (.cells #[.slice a ps.length cap] 71 (0, 0)) := by rw [← hW0]; simpa using heap_alloc_new (w.alloc (.cells #[.int .i64 0] 3)) (.cells #[.slice a ps.length cap] 71)
  have hr0 : RowP W0 0 (.slice a ps.length cap) ps := (hr.below hB0).mono (Nat.zero_le _)
  have hapart : ∀ k, blk (.slice a ps.length cap) = some k → k < w.heap.size := fun k hk => (RowV.lt hr k hk).2
  rw [hW0]
  clear hW0
  refine range4G (by omega) (gf := 53) (lb := #[.pointer (some ⟨w.heap.size + 1, 0, none⟩)]) rfl (enters_of Try.func53 (by kernel_rfl) rfl)
    (str_gives ps o _ (w.heap.size + 1) (.slice a ps.length cap) (by omega) W0 b1 hr0) (Below.refl _ _) (fun _ => rfl)
    (fun pre V => pre.length ≤ 1114112 ∧ V.heap[w.heap.size]? = some (.cells #[.int .i64 (pre.length : Nat)] 3 (0, 0)) ∧ Below w.heap.size w V ∧ W0.heap.size ≤ V.heap.size)
    (fun c pre V => False)
    ((own_pure _ _).and ((own_blockF _ _ _ (fun _ => rfl)).and ((ownFrom_below (Nat.le_refl _) (by omega)).and (fun _ _ _ _ hs hg _ => Nat.le_trans hs hg.size))))
    (fun c => own_pure _ _) (CalmR.none _ _ _) ⟨by simp, b0, hB0, Nat.le_refl _⟩ ?a1 ?assign ?body ?done ?stop
  case assign =>
    intro l x V K hK
    gi_wp2
    exact hK
  case body =>
    rintro l pre x V hl hsz2 ⟨r, hr⟩ ⟨h1, h2, h3, h4⟩ hSp
    have c0 : V.cell? ⟨w.heap.size, 0, none⟩ = some (.int .i64 (pre.length : Nat)) := by simp [World.cell?, h2]
    have f0 : V.frozen? ⟨w.heap.size, 0, none⟩ = false := by simp [World.frozen?, h2]
    have hpl : pre.length + 1 ≤ 1114112 := by have := hSp.length_le; simp at this; omega
    have q6 : IntKind.i64.wrap ((pre.length : Int) + 1) = (pre.length : Int) + 1 := by rw [IntKind.wrap_i64]; omega
    gi_wp2
    refine ⟨(KeepsOthers.setCell _ _ _).from _, ⟨(KeepsOthers.setCell _ _ _).walks, fun k ob hk _ hx => ?_⟩, by simpa using hpl, ?_, h3.setCell (by simp) _, by simp [World.setCell]; omega⟩
    · refine (Below.heap_setCell _ _ _ _ ?_).trans hx
      show k ≠ w.heap.size
      rcases hk with hk | hk | hk
      · omega
      · omega
      · have := hapart k hk; omega
    · rw [setCell_eq_setRow V w.heap.size 0 _ _ _ _ h2]
      have := setRow_heap V w.heap.size _ (#[.int .i64 ((pre.length : Int) + 1)] : Array Value) _ _ h2
      simpa using this
  case done =>
    rintro D xs V hD hS ⟨h1, h2, h3, h4⟩ hK
    subst hS
    have c0 : V.cell? ⟨w.heap.size, 0, none⟩ = some (.int .i64 ((strsP eqv ps).length : Nat)) := by simp [World.cell?, h2]
    gi_wp2
    refine ⟨by simp, .inl ⟨_, _, rfl, run_takeDeferred hK, ?_⟩⟩
    exact ⟨_, results_tmp rfl _ _ _, rfl, below_put h3 (by omega) _⟩
  case stop =>
    rintro D c pre V hD hSp hx hK
    exact hx.elim

end Go.Proofs.Ytnhcbcbceaeceaa.VS
