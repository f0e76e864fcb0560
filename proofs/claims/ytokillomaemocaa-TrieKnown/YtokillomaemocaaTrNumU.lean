/-
  Blocks that are numbered in the order in which they are met: in memory, and by the program.
-/
import Derived.Test.YtokillomaemocaaTrRowU
import Derived.Deep.WholeRow
import Derived.Test.YtokillomaemocaaTrSt
namespace Go.Proofs.Ytokillomaemocaa.VU
open Go.RowKit Go.PlainAid Go.Lib Go.PRow Go.Maps Go.TrM
set_option linter.unusedVariables false
set_option linter.unusedSimpArgs false

theorem hide {p : Prop} (h : p) : Hid p := h
theorem unhide {p : Prop} (h : Hid p) : p := h
/-- the numbered blocks bs lie at bn: their map at m, their values at v -/
structure NumAt (w : World) (B bn m : Nat) (v : Value) (bs : List (List El)) : Prop where
  hn : w.heap[bn]? = some (.cells #[.map (some m), v] 173 (0, 0))
  hm : BMap w m bs
  hv : RowE w B v bs.flatten
  bB : B ≤ bn
  mB : B ≤ m
theorem NumAt.ne {w : World} {B bn m : Nat} {v : Value} {bs : List (List El)} (h : NumAt w B bn m v bs) : bn ≠ m := by
  intro e
  obtain ⟨⟨es, c, hb, r⟩, q⟩ := h.hm
  have := h.hn
  rw [e, hb] at this
  cases this
theorem NumAt.lt {w : World} {B bn m : Nat} {v : Value} {bs : List (List El)} (h : NumAt w B bn m v bs) : bn < w.heap.size ∧ m < w.heap.size := ⟨(Array.getElem?_eq_some_iff.1 h.hn).1, h.hm.lt⟩
theorem NumAt.row {w : World} {B bn m : Nat} {v : Value} {bs : List (List El)} (h : NumAt w B bn m v bs) : ∀ g, blk v = some g → g ≠ bn ∧ g ≠ m ∧ B ≤ g ∧ g < w.heap.size := by
  intro g hg
  obtain ⟨h1, h2⟩ := h.hv.lt g hg
  refine ⟨?_, ?_, h1, h2⟩
  · rintro rfl
    rcases h.hv.2 with ⟨a, rfl, _⟩ | ⟨g', cap, cur, rfl, _, hh, _⟩
    · rw [blk_zero] at hg; cases hg
    · cases cap with
      | zero => rw [blk_zero] at hg; cases hg
      | succ c =>
        cases hg
        have := h.hn
        rw [hh] at this
        simp at this
  · rintro rfl
    obtain ⟨⟨es, c, hb, r⟩, q⟩ := h.hm
    rcases h.hv.2 with ⟨a, rfl, _⟩ | ⟨g', cap, cur, rfl, _, hh, _⟩
    · rw [blk_zero] at hg; cases hg
    · cases cap with
      | zero => rw [blk_zero] at hg; cases hg
      | succ c =>
        cases hg
        rw [hh] at hb
        cases hb
theorem NumAt.keep {w w' : World} {B bn m : Nat} {v : Value} {bs : List (List El)} (h : NumAt w B bn m v bs) (h1 : w'.heap[bn]? = w.heap[bn]?) (h2 : w'.heap[m]? = w.heap[m]?) (h3 : ∀ g, blk v = some g → w'.heap[g]? = w.heap[g]?) : NumAt w' B bn m v bs :=
  ⟨h1.trans h.hn, h.hm.same h2, h.hv.kept h3, h.bB, h.mB⟩
theorem NumAt.below {w w' : World} {B bn m : Nat} {v : Value} {bs : List (List El)} (h : NumAt w B bn m v bs) (hb : Below w.heap.size w w') : NumAt w' B bn m v bs :=
  h.keep (hb.block _ h.lt.1) (hb.block _ h.lt.2) fun g hg => hb.block _ (h.row g hg).2.2.2
/-- what is done to them leaves all else -/
def NumK (w w' : World) (bn m : Nat) (v v' : Value) : Prop := w.heap.size ≤ w'.heap.size ∧ (∀ i, i < w.heap.size → i ≠ bn → i ≠ m → some i ≠ blk v → w'.heap[i]? = w.heap[i]?) ∧ (blk v' = blk v ∨ ∀ g, blk v' = some g → w.heap.size ≤ g)
theorem info64 : (Try.prog.info? 245).map (·.size) = some 64 := by kernel_rfl
theorem load64 (w : World) (g o : Nat) (b : List El) (hb : b.length = 64) (h : ∀ j x, b[j]? = some x → w.cell? ⟨g, o + j, none⟩ = some (enc x)) :
    (Instr.loadAt 245 (.pointer (some ⟨g, o, none⟩))).run Try.prog w = .ok (.agg (b.map enc).toArray) w := by
  have := run_loadCells_list (P := Try.prog) w ⟨g, o, none⟩ (b.map enc) (fun j v hv => by
    rw [List.getElem?_map] at hv
    cases hx : b[j]? with
    | none => rw [hx] at hv; cases hv
    | some x =>
      rw [hx] at hv
      cases hv
      rw [Addr.add_lit]
      exact h j x hx)
  have hs : (b.map enc).length = 64 := by simp [hb]
  rw [hs] at this
  have hag : (isAgg 245).run Try.prog w = .ok true w := by kernel_rfl
  have hso : (sizeOf 245).run Try.prog w = .ok 64 w := by kernel_rfl
  simp only [Instr.loadAt, Instr.sureAddr, Sem.run_bind, Sem.run_pure, Result.andThen, loadVar, hag, hso, this, if_true]
theorem arrayAt64 (w : World) (a : Option Addr) (c : Nat) : (Instr.arrayAt 245 (.slice a 64 c)).run Try.prog w = .ok (.pointer a) w := by
  have h := Try.underlying245
  simp [Instr.arrayAt, run_underlying h]
theorem store64 (w : World) (b : List El) (hb : b.length = 64) (Z : Array Value) (hZ : Z.size = 64) : (Instr.storeAt 245 (.pointer (some ⟨w.heap.size, 0, none⟩)) (.agg (b.map enc).toArray)).run Try.prog (w.alloc (.cells Z 245)) = .ok () (w.alloc (.cells (b.map enc).toArray 245)) :=
  run_storeAt_new w 245 _ _ (by rw [info64]; simp [hb]) (by simp [hb, hZ]) (by rw [List.all_toArray, List.all_eq_true]; exact cellsE_one b)
theorem cell2 {w : World} {bn : Nat} {x y : Value} {t : TypeId} (h : w.heap[bn]? = some (.cells #[x, y] t (0, 0))) : w.cell? ⟨bn, 0, none⟩ = some x ∧ w.cell? ⟨bn, 1, none⟩ = some y := by
  constructor <;> simp [World.cell?, h]
theorem heap_setCell {w : World} {bn : Nat} {x y z : Value} {t : TypeId} (h : w.heap[bn]? = some (.cells #[x, y] t (0, 0))) : (w.setCell ⟨bn, 1, none⟩ z).heap[bn]? = some (.cells #[x, z] t (0, 0)) := by
  simp only [World.setCell, Array.getElem?_modify, if_true, h, Option.map_some]
  rfl
set_option maxRecDepth 100000 in
set_option maxHeartbeats 2000000 in
theorem number_any (w : World) (B bn m : Nat) (v : Value) (bs : List (List El)) (h : NumAt w B bn m v bs) (g o c : Nat) (b : List El) (hb : OkB b) (hc : ∀ j x, b[j]? = some x → w.cell? ⟨g, o + j, none⟩ = some (enc x)) (hl : bs.length ≤ 17408) :
    Calls Try.prog 118 #[.pointer (some ⟨bn, 0, none⟩), .slice (some ⟨g, o, none⟩) 64 c] w fun e w' => e = .returned (.int .u16 ((numS bs b).2 : Int)) ∧ ∃ v', NumAt w' B bn m v' (numS bs b).1 ∧ NumK w w' bn m v v' ∧ Below B w w' := by
  have hBs : B ≤ w.heap.size := Nat.le_trans h.bB (Nat.le_of_lt h.lt.1)
  have hld := load64 w g o b hb.1 hc
  have har := arrayAt64 w (some ⟨g, o, none⟩) c
  have hst := store64 w b hb.1
  have hKs : (b.map enc).toArray.size = 64 := by simp [hb.1]
  obtain ⟨W, hW⟩ : ∃ W, w.alloc (.cells (b.map enc).toArray 245) = W := ⟨_, rfl⟩
  have hbW : Below w.heap.size w W := by rw [← hW]; exact (Below.refl _ w).alloc (Nat.le_refl _) _
  have hWs : W.heap.size = w.heap.size + 1 := by rw [← hW]; simp
  have hk2 : ∀ j x, b[j]? = some x → W.cell? ⟨w.heap.size, 0 + j, none⟩ = some (enc x) := fun j x hx => by
    rw [← hW, Nat.zero_add]
    simp only [World.cell?, heap_alloc_last]
    have : (b.map enc)[j]? = some (enc x) := by rw [List.getElem?_map, hx]; rfl
    simpa using this
  simp only [hW] at hst
  have hN := h.below hbW
  have hlook := hN.hm.look hb
  obtain ⟨c0, c1⟩ := cell2 hN.hn
  have hcB : ∀ j x, b[j]? = some x → W.cell? ⟨g, o + j, none⟩ = some (enc x) := fun j x hx => (hbW.cell (World.block_lt_of_cell? _ _ (hc j x hx))).trans (hc j x hx)
  have HLD2 := hide (fun W' (he : W'.heap = W.heap) => load64 W' w.heap.size 0 b hb.1 (fun j x hx => by have := hk2 j x hx; simp only [World.cell?, he] at this ⊢; exact this))
  have HLK := hide (fun W' (he : W'.heap = W.heap) => (hN.hm.same (w' := W') (by rw [he])).look hb)
  have hN1 : NumAt W.drew B bn m v bs := hN.keep rfl rfl fun _ _ => rfl
  have HBW := hide (hbW.drew)
  have HLD := hide hld
  have HAR := hide har
  have HST := hide hst
  have HSZ := hide hWs
  by_cases hm : b ∈ bs
  · have e1 : (numS bs b).1 = bs := by rw [numS_yes hm]
    rw [e1]
    clear e1
    simp only [if_pos hm, decide_eq_true hm] at HLK
    generalize hix : ((numS bs b).2 : Int) = ix at *
    have HN := hide hN1
    generalize hK : (b.map enc).toArray = K at *
    clear hix hK hN hbW hWs hcB hc hb h hl hld har hst hKs hk2 hm hlook hN1
    have hlook := unhide HLK W.drew rfl
    go_enter Try.func118, Try.ntmps118
    go_wp2_with (first
      | (refine TrSt.wpList_arr rfl (some 10) rfl _ _ rfl _ rfl (unhide HAR) ?_)
      | (refine TrSt.wpList_ld rfl (some 11) rfl 245 _ rfl _ rfl (unhide HLD) ?_)
      | (refine TrSt.wpList_st rfl rfl 245 _ _ rfl _ _ rfl rfl (unhide HST _ rfl) ?_))
    refine TrSt.region_still (by kernel_rfl) (by kernel_rfl) ?_
    still_step
    still_step
    still_step
    still_step
    refine TrSt.wpStill_ld rfl (some 17) rfl 245 _ rfl _ rfl (unhide HLD2 _ rfl) ?_
    repeat still_step
    refine wpStill_nil ?_
    go_wp2
    go_ret
    exact ⟨rfl, v, unhide HN, ⟨by show w.heap.size ≤ W.heap.size; rw [unhide HSZ]; omega, fun i hi _ _ _ => (unhide HBW).block i hi, .inl rfl⟩, (unhide HBW).mono hBs⟩
  · rw [numS_no hm]
    simp only [if_neg hm, decide_eq_false hm] at HLK
    have hlen := hN1.hm.len
    replace hN1 : NumAt W.drew.drew B bn m v bs := hN1.keep rfl rfl fun _ _ => rfl
    obtain ⟨W2, hup, hm2, hg2⟩ := hN1.hm.put hb hm (by omega)
    have hn2 : W2.heap[bn]? = some (.cells #[.map (some m), v] 173 (0, 0)) := (hg2.block bn hN1.lt.1 (fun e => hN1.ne (by injection e))).trans hN1.hn
    obtain ⟨d0, d1⟩ := cell2 hn2
    have hv2 : RowE W2 B v bs.flatten := hN1.hv.kept fun g hg => hg2.block g (hN1.row g hg).2.2.2 (fun e => (hN1.row g hg).2.1 (by injection e))
    have hWs2 : W.heap.size ≤ W2.heap.size := hg2.size
    have hmg : g ≠ m := by
      rintro rfl
      obtain ⟨⟨es, cl, hb', r⟩, q⟩ := h.hm
      have hx := hc 0 (b[0]'(by rw [hb.1]; decide)) (List.getElem?_eq_getElem (by rw [hb.1]; decide))
      simp [World.cell?, hb'] at hx
    have hsrc : Src Try.prog 1 25 (.slice (some ⟨g, o, none⟩) 64 c) b.length (b.map enc) W2 := by
      rw [hb.1]
      refine Src.ofSlice W2 Try.underlying25 ⟨g, o, none⟩ 64 c (b.map enc) (by simp [hb.1]) (fun j u hj => ?_) (cellsE_one b)
      rw [Addr.add_lit]
      rw [List.getElem?_map] at hj
      cases hx : b[j]? with
      | none => rw [hx] at hj; cases hj
      | some x =>
        rw [hx] at hj
        cases hj
        have hx' := hcB j x hx
        have hlt := World.block_lt_of_cell? _ _ hx'
        have := hg2.block g hlt (fun e => hmg (by injection e))
        simp only [World.cell?, this] at hx' ⊢
        exact hx'
    have hfl := flat_len bs (fun b hb => (hN1.hm.2.2 b hb).1)
    have HAP := hide (append_src B v (.slice (some ⟨g, o, none⟩) 64 c) bs.flatten b W2 (Nat.le_trans hBs (Nat.le_trans (by rw [hWs]; omega) hWs2)) hv2 hsrc (by rw [hfl, hb.1]; omega))
    have HN2 := hide (And.intro hn2 hm2)
    have HG2 := hide hg2
    have HV2 := hide hv2
    have HN1 := hide hN1
    have hcv : IntKind.u16.wrap (bs.length : Int) = (bs.length : Int) := by rw [IntKind.wrap_u16]; omega
    have HW2 := hide hWs2
    generalize hL : (bs.length : Int) = L at *
    have HL := hide hL
    have HUP := hide hup
    generalize hK : (b.map enc).toArray = K at *
    clear hL hK hN hbW hWs hcB hc hb hl hld har hst hKs hk2 hm hlook hN1 hn2 hm2 hg2 hv2 hWs2 hsrc hfl
    have hlook := unhide HLK W.drew rfl
    go_enter Try.func118, Try.ntmps118
    go_wp2_with (first
      | (refine TrSt.wpList_arr rfl (some 10) rfl _ _ rfl _ rfl (unhide HAR) ?_)
      | (refine TrSt.wpList_ld rfl (some 11) rfl 245 _ rfl _ rfl (unhide HLD) ?_)
      | (refine TrSt.wpList_st rfl rfl 245 _ _ rfl _ _ rfl rfl (unhide HST _ rfl) ?_))
    refine TrSt.region_still (by kernel_rfl) (by kernel_rfl) ?_
    still_step
    still_step
    still_step
    still_step
    refine TrSt.wpStill_ld rfl (some 17) rfl 245 _ rfl _ rfl (unhide HLD2 _ rfl) ?_
    repeat still_step
    refine wpStill_nil ?_
    go_wp2
    refine TrSt.region_tail 6 (by kernel_rfl) (by kernel_rfl) ?_
    simp only [List.take_succ_cons, List.take_zero, List.drop_succ_cons, List.drop_zero]
    still_step
    still_step
    still_step
    still_step
    refine TrSt.wpStill_ld rfl (some 33) rfl 245 _ rfl _ rfl (unhide HLD2 _ rfl) ?_
    still_step
    refine wpStill_nil ?_
    refine TrSt.wpList_up rfl rfl 171 _ _ _ rfl _ _ _ rfl rfl rfl (unhide HUP) ?_
    go_wp2_with (at_builtin; refine wpList_appendE rfl _ _ _ _ rfl _ _ rfl rfl (unhide HAP) ?_; rintro v' w3 ht; obtain ⟨a', n', cap', rfl⟩ : ∃ a' n' cap', v' = Value.slice a' n' cap' := by { obtain ⟨a, c, e, _⟩ := ht.1.form; exact ⟨a, _, c, e⟩ }; have hn3 := (ht.2.1.block bn (Array.getElem?_eq_some_iff.1 (unhide HN2).1).1 (fun e => ((unhide HN1).row bn e.symm).1 rfl)).trans (unhide HN2).1; obtain ⟨e0, e1⟩ := cell2 hn3; have ef : w3.frozen? ⟨bn, 1, none⟩ = false := by { simp [World.frozen?, hn3] }; have HN3 := hide (And.intro ht hn3); clear ht hn3)
    go_ret
    obtain ⟨ht, hn3⟩ := unhide HN3
    have hN1 := unhide HN1
    obtain ⟨hn2, hm2⟩ := unhide HN2
    have hg2 := unhide HG2
    have hm3 : BMap w3 m (bs ++ [b]) := hm2.same (ht.2.1.block m hm2.lt (fun e => (hN1.row m e.symm).2.1 rfl))
    have hb3 : bn < w3.heap.size := (Array.getElem?_eq_some_iff.1 hn3).1
    have hne : ∀ k, k ≠ bn → ∀ z, (w3.setCell ⟨bn, 1, none⟩ z).heap[k]? = w3.heap[k]? := fun k hk z => by
      simp only [World.setCell, Array.getElem?_modify]
      rw [if_neg (fun e => hk e.symm)]
    have hmb : m ≠ bn := fun e => hN1.ne e.symm
    have hsz2 : W.heap.size ≤ W2.heap.size := unhide HW2
    have hsz3 : W2.heap.size ≤ w3.heap.size := ht.2.1.size
    have hsz1 : W.heap.size = w.heap.size + 1 := unhide HSZ
    have hblk : ∀ g', blk (.slice a' n' cap') = some g' → g' ≠ bn := fun g' hg' e => by
      subst e
      rcases ht.2.2 with hh | hh
      · exact (hN1.row g' (hh ▸ hg')).1 rfl
      · have := hh g' hg'
        have := (Array.getElem?_eq_some_iff.1 hn2).1
        omega
    refine ⟨by rw [← unhide HL]; rfl, .slice a' n' cap', ⟨heap_setCell hn3, hm3.same (hne m hmb _), ?_, hN1.bB, hN1.mB⟩, ⟨?_, ?_, ?_⟩, ?_⟩
    · rw [List.flatten_append, List.flatten_singleton]
      exact ht.1.kept fun g' hg' => hne g' (hblk g' hg') _
    · rw [World.size_setCell]; omega
    · intro i hi h1 h2 h3
      rw [hne i h1]
      rw [ht.2.1.block i (by omega) h3, hg2.block i (by show i < W.heap.size; omega) (fun e => h2 (by injection e))]
      exact (unhide HBW).block i hi
    · rcases ht.2.2 with hh | hh
      · exact .inl hh
      · exact .inr fun g' hg' => by have := hh g' hg'; omega
    · have q1 := ((unhide HBW).mono hBs).drew
      have q2 := q1.grown hg2 (by show B ≤ W.heap.size; omega) (fun k hk => by injection hk with hk; rw [← hk]; exact hN1.mB)
      have q3 := q2.grown ht.2.1 (by omega) (fun k hk => (hN1.row k hk).2.2.1)
      exact q3.setCell hN1.bB _
theorem newNum_any (w : World) (B : Nat) (hB : B ≤ w.heap.size) : Calls Try.prog 86 #[] w fun e w' => e = .returned (.pointer (some ⟨w.heap.size + 1, 0, none⟩)) ∧ NumAt w' B (w.heap.size + 1) w.heap.size (.slice none 0 0) [] ∧ w'.heap.size = w.heap.size + 2 ∧ Below w.heap.size w w' := by
  have hmk : ∀ w : World, (Instr.makeMap 171 none).run Try.prog w = .ok (.map (some w.heap.size)) (w.alloc (.map #[] 0)) := fun w => by
    simp [Instr.makeMap, run_underlying Try.underlying171, Result.andThen]
  go_enter Try.func86, Try.ntmps86
  go_wp2
  go_ret
  refine ⟨rfl, ⟨?_, (BMap.new w).same (Below.heap_alloc _ _ _ (by simp)), RowV.nil _ _ _ _ _, by omega, hB⟩, by simp, ((Below.refl _ w).alloc (Nat.le_refl _) _).alloc (by simp) _⟩
  have := heap_alloc_new (w.alloc (.map #[] 0)) (.cells #[.map (some w.heap.size), .slice none 0 0] 173)
  rw [World.size_alloc] at this
  exact this
end Go.Proofs.Ytokillomaemocaa.VU
