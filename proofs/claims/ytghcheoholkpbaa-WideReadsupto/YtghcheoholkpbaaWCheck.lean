/-
  Check of package wide, for every units.
-/
import Derived.Test.YtghcheoholkpbaaWAwake
namespace Go.Proofs.Ytghcheoholkpbaa
open Go.RowKit Go.PlainAid Go.Lib Go.Shelf
attribute [local go_sem] Oper.semAt_some
set_option linter.unusedVariables false

/-- where the first lone surrogate is, and what it is -/
def chkR (us : List Int) : Int × Int := match (wplaces us 0).find? (lone us) with | some p => (((p : Nat) : Int), if highB (uA us p) then 20 else 21) | none => (0, 0)
theorem chk_none (us : List Int) (h : ∀ p ∈ wplaces us 0, lone us p = false) : chkR us = (0, 0) := by
  unfold chkR
  rw [List.find?_eq_none.2 (fun y hy => by rw [h y hy]; simp)]
theorem chk_some (us : List Int) (ini post : List Nat) (p : Nat) (h : wplaces us 0 = ini ++ p :: post) (h1 : ∀ q ∈ ini, lone us q = false) (h2 : lone us p = true) : chkR us = (((p : Nat) : Int), if highB (uA us p) then 20 else 21) := by
  unfold chkR
  have e : (ini ++ p :: post).find? (lone us) = some p := by
    rw [List.find?_append]
    have : ini.find? (lone us) = none := List.find?_eq_none.2 (fun y hy => by rw [h1 y hy]; simp)
    rw [this]; simp [h2]
  rw [h, e]
theorem lone_not (us : List Int) (p : Nat) (h : rA us p ≠ 65533) : lone us p = false := by
  unfold lone
  by_cases hp : pairAt us p = true
  · rw [hp]; rfl
  · by_cases hs : surr (uA us p) = true
    · exfalso; apply h
      unfold rA aloneN; rw [if_neg hp]; unfold surr at hs; rw [if_pos hs]
    · simp at hs; rw [hs]; simp
theorem not_pair (us : List Int) (p : Nat) (h : rA us p = 65533) : pairAt us p = false := by
  refine Decidable.byContradiction fun hp => ?_
  have hp : pairAt us p = true := by simpa using hp
  unfold rA at h
  rw [if_pos hp] at h
  unfold pairAt at hp
  simp at hp
  have := join_pair _ _ hp.1.2 hp.2
  unfold pairB at this
  simp at this
  omega
theorem lone_is (us : List Int) (p : Nat) (h : rA us p = 65533) : lone us p = surr (uA us p) := by
  unfold lone; rw [not_pair us p h]; rfl
theorem up_mem {us : List Int} {pre : List (Up us)} {L : List Nat} (h : pre.map (·.1) = L) {p : Nat → Prop} (hp : ∀ x ∈ pre, p x.1) : ∀ i ∈ L, p i := by
  intro i hi
  rw [← h] at hi
  obtain ⟨x, hx, rfl⟩ := List.mem_map.1 hi
  exact hp x hx

set_option maxRecDepth 100000 in
set_option maxHeartbeats 2000000 in
theorem wcheck_any (us : List Int) (a : Option Addr) (c : Nat) (w : World) (hf : Fits us) (hl : us.length ≤ 1099511627776) (hcap : us.length ≤ c) (hcap2 : c ≤ maxLen) (hrd : ReadsU w a us) :
    Calls Try.prog 32 #[.slice a us.length c] w fun e w' => e = .returned (.tuple #[.int .i64 (chkR us).1, .int .i64 (chkR us).2]) ∧ Below w.heap.size w w' := by
  refine (callsIn_wide (n := 5)).1 ?_
  refine callsIn_of_wp_marks Try.func32 rfl trivial ?_ rfl
  simp only [Try.ntmps32, List.size_toArray, List.length_cons, List.length_nil, Nat.reduceAdd, Nat.reduceSub, Array.replicate_succ, Array.replicate_zero, List.push_toArray, List.append_toArray, List.nil_append, List.cons_append]
  have hF : ∀ f, Fence.wide.fn f := fun _ => trivial
  have hws := fun x w => forward_some _ x w rfl
  gi_wp2_with (gi_at_call 60; refine (callsIn_wide.2 (forward_any _ _ _ _)).mono ?_; rintro e w' ⟨rfl, rfl⟩)
  obtain ⟨W0, hW0⟩ : ∃ W0, ((((w.alloc (Obj.cells #[Value.slice a us.length c] 31)).alloc (Obj.cells #[Value.int IntKind.i64 0] 3)).alloc (Obj.cells #[Value.int IntKind.i64 0] 44)).alloc (Obj.cells #[Value.slice a us.length c] 31)) = W0 := ⟨_, rfl⟩
  have hB0 : Below w.heap.size w W0 := by rw [← hW0]; go_grown
  have b0 : Boxed W0 w.heap.size 31 (.slice a us.length c) := by rw [← hW0]; exact (((Boxed.new w _ _).alloc _).alloc _).alloc _
  have b1 : Boxed W0 (w.heap.size + 1) 3 (.int .i64 0) := by rw [← hW0]; simpa using ((Boxed.new (w.alloc (Obj.cells #[Value.slice a us.length c] 31)) 3 (.int .i64 0)).alloc (Obj.cells #[Value.int IntKind.i64 0] 44)).alloc (Obj.cells #[Value.slice a us.length c] 31)
  have b2 : Boxed W0 (w.heap.size + 1 + 1) 44 (.int .i64 0) := by rw [← hW0]; simpa using (Boxed.new ((w.alloc (Obj.cells #[Value.slice a us.length c] 31)).alloc (Obj.cells #[Value.int IntKind.i64 0] 3)) 44 (.int .i64 0)).alloc (Obj.cells #[Value.slice a us.length c] 31)
  have b3 : Boxed W0 (w.heap.size + 1 + 1 + 1) 31 (.slice a us.length c) := by rw [← hW0]; simpa using Boxed.new (((w.alloc (Obj.cells #[Value.slice a us.length c] 31)).alloc (Obj.cells #[Value.int IntKind.i64 0] 3)).alloc (Obj.cells #[Value.int IntKind.i64 0] 44)) 31 (.slice a us.length c)
  have hsz : W0.heap.size = w.heap.size + 4 := by rw [← hW0]; simp
  have hrd0 : ReadsU W0 a us := hrd.below hB0
  rw [hW0]
  clear hW0 hws
  refine wpIn_rangeFunc_ownG rfl (by omega) (gf := 74) (lb := #[.pointer (some ⟨w.heap.size + 1 + 1 + 1, 0, none⟩)]) rfl trivial (enters_of Try.func74 (by kernel_rfl) rfl)
    (forward_stops us a c _ (w.heap.size + 1 + 1 + 1) (by omega) hf hl hcap hcap2 W0 b3 hrd0) kpU_t kpU_b (Below.refl _ _) (fun _ => rfl)
    (fun pre W => (∀ y ∈ pre, lone us y.1 = false) ∧ W.heap[w.heap.size]? = some (.cells #[.slice a us.length c] 31) ∧ W.heap[w.heap.size + 1]? = some (.cells #[.int .i64 0] 3) ∧ W.heap[w.heap.size + 1 + 1]? = some (.cells #[.int .i64 0] 44) ∧ Below w.heap.size w W)
    (fun c pre W => ∃ ini x v, (c = .ret ∧ pre = ini ++ [x] ∧ (∀ y ∈ ini, lone us y.1 = false) ∧ lone us x.1 = true ∧ v = if highB (uA us x.1) then (20 : Int) else 21) ∧ W.heap[w.heap.size + 1]? = some (.cells #[.int .i64 (x.1 : Nat)] 3) ∧ W.heap[w.heap.size + 1 + 1]? = some (.cells #[.int .i64 v] 44) ∧ Below w.heap.size w W)
    ((own_pure _ _).and ((own_block _ _ _ rfl).and ((own_block _ _ _ rfl).and ((own_block _ _ _ rfl).and (ownFrom_below (Nat.le_refl _) (by omega))))))
    (fun c st A B row hx hg hr => by
        obtain ⟨ini, x, v, e1, e2, e3, e4⟩ := hx
        exact ⟨ini, x, v, e1, own_block (β := Unit) _ _ _ rfl () A B row e2 hg hr, own_block (β := Unit) _ _ _ rfl () A B row e3 hg hr, ownFrom_below (β := Unit) (Nat.le_refl _) (by omega) () A B row e4 hg hr⟩)
    ⟨by simp, b0, b1, b2, hB0⟩
    ?a1 ?assign ?body ?done ?stop
  case assign =>
    intro l x W K hK
    gi_wp2
    exact hK
  case body =>
    rintro l pre x W ⟨hpre, k0, k1, k2, hB⟩ hlen
    have c0 := (show Boxed W w.heap.size 31 (.slice a us.length c) from k0).cell
    have c1 := (show Boxed W (w.heap.size + 1) 3 (.int .i64 0) from k1).cell
    have c2 := (show Boxed W (w.heap.size + 1 + 1) 44 (.int .i64 0) from k2).cell
    have f1 := (show Boxed W (w.heap.size + 1) 3 (.int .i64 0) from k1).frozen
    have f2 := (show Boxed W (w.heap.size + 1 + 1) 44 (.int .i64 0) from k2).frozen
    obtain ⟨b, off, rfl, hcell⟩ := (hrd.below hB) x.1 x.2
    have hx2 := x.2
    have HPRE := hide hpre
    have K0 := hide k0
    have K1 := hide k1
    have K2 := hide k2
    clear hpre k0 k1 k2
    have hgo : lone us x.1 = false → Hid (∀ y ∈ pre ++ [x], lone us y.1 = false) := by
      intro hl y hy
      rcases List.mem_append.1 hy with hy | hy
      · exact unhide HPRE y hy
      · simp at hy; rw [hy]; exact hl
    by_cases he : rA us x.1 = 65533
    · have hli := lone_is us x.1 he
      have hq : (rA us x.1 != 65533) = false := by rw [he]; rfl
      have HE := hide he
      clear he
      cases hh : highB (uA us x.1)
      · cases hw : lowB (uA us x.1)
        · have hl : lone us x.1 = false := by rw [hli]; unfold surr; rw [hh, hw]; rfl
          have HALL := hgo hl
          clear hli hl hgo
          gi_wp2_with (first | (gi_at_call 52; refine (callsIn_wide.2 (isHigh_any _ _)).mono ?_; rintro e w' ⟨rfl, rfl⟩) | (gi_at_call 53; refine (callsIn_wide.2 (isLow_any _ _)).mono ?_; rintro e w' ⟨rfl, rfl⟩))
          exact ⟨KeepsFrom.refl _ _, ⟨KeepsWalks.refl _, fun h => h, fun h => h⟩, fun y hy => unhide HALL y hy, unhide K0, unhide K1, unhide K2, hB⟩
        · have HL : Hid (lone us x.1 = true) := by show _ = _; rw [hli]; unfold surr; rw [hh, hw]; rfl
          have HH := hide hh
          clear hli hgo
          gi_wp2_with (first | (gi_at_call 52; refine (callsIn_wide.2 (isHigh_any _ _)).mono ?_; rintro e w' ⟨rfl, rfl⟩) | (gi_at_call 53; refine (callsIn_wide.2 (isLow_any _ _)).mono ?_; rintro e w' ⟨rfl, rfl⟩))
          refine ⟨((KeepsOthers.setCell _ _ _).trans (KeepsOthers.setCell _ _ _)).from _, pre, x, _, ⟨rfl, rfl, unhide HPRE, unhide HL, by rw [unhide HH]; try rfl⟩, ?_, ?_, ?_⟩
          · exact (Below.heap_setCell _ _ _ _ (by simp)).trans (blk_set (i := 0) _ (unhide K1))
          · exact blk_set (i := 0) _ ((Below.heap_setCell _ _ _ _ (by simp)).trans (unhide K2))
          · exact (hB.setCell (p := ⟨w.heap.size + 1, 0, none⟩) (by simp) _).setCell (p := ⟨w.heap.size + 1 + 1, 0, none⟩) (by simp; omega) _
      · have HL : Hid (lone us x.1 = true) := by show _ = _; rw [hli]; unfold surr; rw [hh]; rfl
        have HH := hide hh
        clear hli hgo
        gi_wp2_with (first | (gi_at_call 52; refine (callsIn_wide.2 (isHigh_any _ _)).mono ?_; rintro e w' ⟨rfl, rfl⟩) | (gi_at_call 53; refine (callsIn_wide.2 (isLow_any _ _)).mono ?_; rintro e w' ⟨rfl, rfl⟩))
        refine ⟨((KeepsOthers.setCell _ _ _).trans (KeepsOthers.setCell _ _ _)).from _, pre, x, _, ⟨rfl, rfl, unhide HPRE, unhide HL, by rw [unhide HH]; try rfl⟩, ?_, ?_, ?_⟩
        · exact (Below.heap_setCell _ _ _ _ (by simp)).trans (blk_set (i := 0) _ (unhide K1))
        · exact blk_set (i := 0) _ ((Below.heap_setCell _ _ _ _ (by simp)).trans (unhide K2))
        · exact (hB.setCell (p := ⟨w.heap.size + 1, 0, none⟩) (by simp) _).setCell (p := ⟨w.heap.size + 1 + 1, 0, none⟩) (by simp; omega) _
    · have hq : (rA us x.1 != 65533) = true := by simpa using he
      have HALL := hgo (lone_not us x.1 he)
      have HE := hide he
      clear he hgo
      gi_wp2
      exact ⟨KeepsFrom.refl _ _, ⟨KeepsWalks.refl _, fun h => h, fun h => h⟩, fun y hy => unhide HALL y hy, unhide K0, unhide K1, unhide K2, hB⟩
  case done =>
    rintro D ys W hD hS ⟨hpre, k0, k1, k2, hB⟩ hK
    have HR := hide (chk_none us (up_mem (p := fun i => lone us i = false) hS hpre))
    have c1 := (show Boxed W (w.heap.size + 1) 3 (.int .i64 0) from k1).cell
    have c2 := (show Boxed W (w.heap.size + 1 + 1) 44 (.int .i64 0) from k2).cell
    have f1 := (show Boxed W (w.heap.size + 1) 3 (.int .i64 0) from k1).frozen
    have f2 := (show Boxed W (w.heap.size + 1 + 1) 44 (.int .i64 0) from k2).frozen
    have HPRE := hide hpre
    have HS := hide hS
    clear hpre hS
    gi_wp2
    have hK' := ((KeepsOthers.setCell W ⟨w.heap.size + 1, 0, none⟩ (.int .i64 0)).trans (KeepsOthers.setCell _ ⟨w.heap.size + 1 + 1, 0, none⟩ (.int .i64 0))).same D _ hK rfl
    have hB5 := (hB.setCell (p := ⟨w.heap.size + 1, 0, none⟩) (by simp) (.int .i64 0)).setCell (p := ⟨w.heap.size + 1 + 1, 0, none⟩) (by simp; omega) (.int .i64 0)
    have t1 := (Below.heap_setCell (W.setCell ⟨w.heap.size + 1, 0, none⟩ (.int .i64 0)) ⟨w.heap.size + 1 + 1, 0, none⟩ (.int .i64 0) (w.heap.size + 1) (by simp)).trans (blk_set (i := 0) (.int .i64 0) k1)
    have t2 := blk_set (i := 0) (.int .i64 0) ((Below.heap_setCell W ⟨w.heap.size + 1, 0, none⟩ (.int .i64 0) (w.heap.size + 1 + 1) (by simp)).trans k2)
    generalize (W.setCell ⟨w.heap.size + 1, 0, none⟩ (.int .i64 0)).setCell ⟨w.heap.size + 1 + 1, 0, none⟩ (.int .i64 0) = W5 at *
    refine ⟨by simp, .inl ⟨_, _, rfl, run_takeDeferred hK', ?_⟩⟩
    have t1' : Boxed (W5.putObj D (.deferred none)) (w.heap.size + 1) 3 (.int .i64 0) := (World.putObj_heap_other (by omega)).trans t1
    have t2' : Boxed (W5.putObj D (.deferred none)) (w.heap.size + 1 + 1) 44 (.int .i64 0) := (World.putObj_heap_other (by omega)).trans t2
    have q1 := t1'.cell
    have q2 := t2'.cell
    refine ⟨.tuple #[.int .i64 0, .int .i64 0], ?_, ?_, hB5.trans (belowK_b (w := w) (Nat.le_refl _) _ D _ _ (by omega) hK' rfl rfl)⟩
    · simp [results, Try.f32, go_sem, q1, q2]
    · rw [unhide HR]
  case stop =>
    rintro D c pre W hD ⟨post, hpost⟩ ⟨ini, x, v, ⟨rfl, e1, e2, e3, rfl⟩, k1, k2, hB⟩ hK
    have HR := hide (chk_some us (ini.map (·.1)) post x.1 (by rw [← hpost, e1, List.map_append, List.append_assoc]; rfl) (up_mem rfl e2) e3)
    clear hpost e1 e2 e3
    gi_wp2
    refine ⟨by simp, .inl ⟨_, _, rfl, run_takeDeferred hK, ?_⟩⟩
    have t1 : Boxed (W.putObj D (.deferred none)) (w.heap.size + 1) 3 (.int .i64 (x.1 : Nat)) := (World.putObj_heap_other (by omega)).trans k1
    have t2 : Boxed (W.putObj D (.deferred none)) (w.heap.size + 1 + 1) 44 (.int .i64 (if highB (uA us x.1) then 20 else 21)) := (World.putObj_heap_other (by omega)).trans k2
    have q1 := t1.cell
    have q2 := t2.cell
    refine ⟨.tuple #[.int .i64 (x.1 : Nat), .int .i64 (if highB (uA us x.1) then 20 else 21)], ?_, ?_, hB.trans (belowK_b (w := w) (Nat.le_refl _) _ D _ _ (by omega) hK rfl rfl)⟩
    · simp [results, Try.f32, go_sem, q1, q2]
    · rw [unhide HR]

end Go.Proofs.Ytghcheoholkpbaa
