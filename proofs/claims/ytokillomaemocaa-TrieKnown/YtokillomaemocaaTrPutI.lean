/-
  A block put so many times.
-/
import Derived.Test.YtokillomaemocaaTrMkI
namespace Go.Proofs.Ytokillomaemocaa.VI
open Go.RowKit Go.PlainAid Go.Lib Go.PRow Go.Maps Go.TrM
set_option linter.unusedVariables false
set_option linter.unusedSimpArgs false

/-- one value laid as a row of its own -/
theorem rowW_one (w : World) (x : Int) : VW.RowE (w.alloc (.cells #[.int .u16 x] 34)) w.heap.size (.slice (some ⟨w.heap.size, 0, none⟩) 1 1) [x] :=
  VW.RowE.of (cur := #[.int .u16 x]) (Nat.le_refl _) (heap_alloc_new w _) rfl (Nat.le_refl _) (by unfold maxLen; omega) rfl rfl
/-- the number of a place laid, in a walk -/
theorem lay_one {w : World} {B mk bn m : Nat} {v vl vb : Value} {bs : List (List El)} {ls : List Int} {xs : List El} (h : MakAt w B mk bn m v vl vb bs ls xs) (x : Int) (hlen : ls.length ≤ 17408) :
    ∃ s' w', (∀ ty, (Builtin.append_ #[24, 24] ty #[vl, .slice (some ⟨w.heap.size, 0, none⟩) 1 1]).run Try.prog (w.alloc (.cells #[.int .u16 x] 34)) = .ok s' w') ∧ (∃ a n c, s' = .slice a n c) ∧ w'.heap[mk]? = some (.cells #[.pointer (some ⟨bn, 0, none⟩), vl, vb] 229 (0, 0)) ∧
      MakAt (w'.setCell ⟨mk, 1, none⟩ s') B mk bn m v s' vb bs (ls ++ [x]) xs ∧ MakK w (w'.setCell ⟨mk, 1, none⟩ s') (Own mk bn m v vl vb) (Own mk bn m v s' vb) ∧ Below B w (w'.setCell ⟨mk, 1, none⟩ s') := by
  have hbW : Below w.heap.size w (w.alloc (.cells #[.int .u16 x] 34)) := (Below.refl _ w).alloc (Nat.le_refl _) _
  have hM := h.below hbW
  have hBs : B ≤ w.heap.size := Nat.le_trans h.bB (Nat.le_of_lt h.lt)
  obtain ⟨s', w', hr, ht⟩ := VW.append_es B w.heap.size vl (.slice (some ⟨w.heap.size, 0, none⟩) 1 1) ls [x] _ (by rw [World.size_alloc]; omega) hM.hl (rowW_one w x) (by simp only [List.length_cons, List.length_nil]; omega)
  obtain ⟨hA, hK, hmk⟩ := hM.laid ht
  refine ⟨s', w', hr, ?_, hmk, hA, hK.after hbW, ?_⟩
  · obtain ⟨a, c, e, _⟩ := ht.1.form
    exact ⟨a, _, c, e⟩
  · have q1 := hbW.mono hBs
    have q2 := q1.grown ht.2.1 (by rw [World.size_alloc]; omega) (fun k hk => (hM.hl.lt k hk).1)
    exact q2.setCell h.bB _

set_option maxRecDepth 100000 in
set_option maxHeartbeats 2000000 in
theorem put_q (Q : Ending → World → Prop) (w : World) (B mk bn m : Nat) (v vl vb : Value) (bs : List (List El)) (ls : List Int) (xs : List El) (h : MakAt w B mk bn m v vl vb bs ls xs) (g o c : Nat) (b : List El) (hb : OkB b) (hc : ∀ j x, b[j]? = some x → w.cell? ⟨g, o + j, none⟩ = some (enc x)) (hg : blk v ≠ some g) (n : Nat) (hl : bs.length ≤ 17408) (hn : ls.length + n ≤ 17408)
    (hQ : Hid (∀ w' v' vl', MakAt w' B mk bn m v' vl' vb (numS bs b).1 (ls ++ List.replicate n ((numS bs b).2 : Int)) xs → MakK w w' (Own mk bn m v vl vb) (Own mk bn m v' vl' vb) → Below B w w' → Q (.returned (.tuple #[])) w')) :
    Calls Try.prog 112 #[.pointer (some ⟨mk, 0, none⟩), .slice (some ⟨g, o, none⟩) 64 c, .int .i64 n] w Q := by
  obtain ⟨c0, c1, c2⟩ := cell3 h.hk
  have HNO := hide (number_any w B bn m v bs h.hn g o c b hb hc hl)
  have hgm : g ≠ bn ∧ g ≠ m ∧ g < w.heap.size := by
    have hx := hc 0 (b[0]'(by rw [hb.1]; decide)) (List.getElem?_eq_getElem (by rw [hb.1]; decide))
    have hlt := World.block_lt_of_cell? _ _ hx
    refine ⟨?_, ?_, hlt⟩
    · rintro rfl
      have h63 := hc 63 (b[63]'(by rw [hb.1]; decide)) (List.getElem?_eq_getElem (by rw [hb.1]; decide))
      have hbn := h.hn.hn
      simp [World.cell?, hbn] at h63
    · rintro rfl
      obtain ⟨⟨es, cl, hb', r⟩, q⟩ := h.hn.hm
      simp [World.cell?, hb'] at hx
  have HH := hide (And.intro h (And.intro hc hgm))
  have HB := hide hb
  have HG := hide hg
  clear h hc hgm hb hg
  go_enter Try.func112, Try.ntmps112
  go_wp2_with fail
  refine (unhide HNO).mono ?_
  rintro e w1 ⟨rfl, v1, hN1, hK1, hB1⟩
  obtain ⟨hM1, hO1⟩ := (unhide HH).1.numbered hN1 hK1
  obtain ⟨_, hc, hgb, hgm, hgl⟩ := unhide HH
  have hc1 : ∀ j x, b[j]? = some x → w1.cell? ⟨g, o + j, none⟩ = some (enc x) := fun j x hx => by
    have := hc j x hx
    simp only [World.cell?] at this ⊢
    rw [hK1.2.1 g hgl hgb hgm (fun e => unhide HG e.symm)]
    exact this
  have hmem : b ∈ (numS bs b).1 := (numS_mem _ _ _).2 (.inr rfl)
  have HHA := hide (has_any w1 B bn m v1 (numS bs b).1 hN1 g o c b (unhide HB) hc1)
  rw [decide_eq_true hmem] at HHA
  obtain ⟨d0, d1, d2⟩ := cell3 hM1.hk
  generalize hno : ((numS bs b).2 : Int) = no at *
  generalize hbs : (numS bs b).1 = bs' at *
  have HM1 := hide (And.intro hM1 (And.intro hO1 hB1))
  clear hno hbs hc hgb hgm hgl hc1 hmem hN1 hK1 hM1 hO1 hB1 HNO HB HG HH c0 c1 c2 hl
  by_cases h1 : n = 1
  · have h1' : (n : Int) = 1 := by omega
    go_wp2_with fail
    go_loopw [6, 26] (fun v6 v26 wr => ∃ (k : Nat) (vl2 : Value), k ≤ n ∧ v6 = .int .u16 no ∧ v26 = .int .i64 k ∧ MakAt wr B mk bn m v1 vl2 vb bs' (ls ++ List.replicate k no) xs ∧ MakK w wr (Own mk bn m v vl vb) (Own mk bn m v1 vl2 vb) ∧ Below B w wr) (fun _ v26 _ => n - (RowKit.intOf v26).toNat)
    case atStart => exact ⟨0, vl, Nat.zero_le _, rfl, rfl, by simpa using unhide HM1⟩
    case round =>
      obtain ⟨k, vl2, hk, rfl, rfl, hM, hO, hB⟩ := hrel
      clear HM1
      by_cases hlt : k < n
      · have HAP := hide (lay_one hM no (by rw [List.length_append, List.length_replicate]; omega))
        obtain ⟨f0, f1, f2⟩ := cell3 hM.hk
        have hkn : (k : Int) < (n : Int) := by omega
        have hw : IntKind.i64.wrap ((k : Int) + 1) = (k : Int) + 1 := by rw [IntKind.wrap_i64]; omega
        have HO := hide (And.intro hO hB)
        have HM := hide hM
        clear hO hB hM
        have hk0 : k = 0 := by omega
        all_goals (
          go_wp2_with (at_builtin; refine VW.wpList_appendE rfl _ _ _ _ rfl _ _ rfl rfl (unhide HAP) ?_; rintro v' w3 ⟨⟨a', n', cap', rfl⟩, hmk3, hM3, hO3, hB3⟩; obtain ⟨e0, e1, e2⟩ := cell3 hmk3; have ef : w3.frozen? ⟨mk, 1, none⟩ = false := by { simp [World.frozen?, hmk3] })
          go_roundw)
        case rel => exact ⟨k + 1, .slice a' n' cap', by omega, rfl, by go_num, by rw [List.append_assoc, ← List.replicate_succ'] at hM3; exact ⟨hM3, (unhide HO).1.trans hO3, (unhide HO).2.trans hB3⟩⟩
        all_goals (simp [RowKit.intOf]; omega)
      · have hkn : ¬ ((k : Int) < (n : Int)) := by omega
        have e : k = n := by omega
        subst e
        have HQ := hide (And.intro hM (And.intro hO hB))
        clear hM hO hB
        go_wp2
        refine bodyPost_end (results_none rfl _ _ _) rfl ?_
        exact unhide hQ wr v1 vl2 (unhide HQ).1 (unhide HQ).2.1 (unhide HQ).2.2
  · have h1' : ¬ ((n : Int) = 1) := by omega
    go_wp2_with fail
    refine (unhide HHA).mono ?_
    rintro e w2 ⟨rfl, rfl⟩
    go_wp2_with fail
    go_loopw [6, 26] (fun v6 v26 wr => ∃ (k : Nat) (vl2 : Value), k ≤ n ∧ v6 = .int .u16 no ∧ v26 = .int .i64 k ∧ MakAt wr B mk bn m v1 vl2 vb bs' (ls ++ List.replicate k no) xs ∧ MakK w wr (Own mk bn m v vl vb) (Own mk bn m v1 vl2 vb) ∧ Below B w wr) (fun _ v26 _ => n - (RowKit.intOf v26).toNat)
    case atStart => exact ⟨0, vl, Nat.zero_le _, rfl, rfl, by simpa using (show MakAt w1.drew B mk bn m v1 vl vb bs' ls xs ∧ _ ∧ _ from ⟨(unhide HM1).1.keep fun _ _ => rfl, (unhide HM1).2.1.below (Below.refl _ _).drew, (unhide HM1).2.2.drew⟩)⟩
    case round =>
      obtain ⟨k, vl2, hk, rfl, rfl, hM, hO, hB⟩ := hrel
      clear HM1
      by_cases hlt : k < n
      · have HAP := hide (lay_one hM no (by rw [List.length_append, List.length_replicate]; omega))
        obtain ⟨f0, f1, f2⟩ := cell3 hM.hk
        have hkn : (k : Int) < (n : Int) := by omega
        have hw : IntKind.i64.wrap ((k : Int) + 1) = (k : Int) + 1 := by rw [IntKind.wrap_i64]; omega
        have HO := hide (And.intro hO hB)
        have HM := hide hM
        clear hO hB hM
        by_cases hk0 : k = 0
        all_goals (
          go_wp2_with (at_builtin; refine VW.wpList_appendE rfl _ _ _ _ rfl _ _ rfl rfl (unhide HAP) ?_; rintro v' w3 ⟨⟨a', n', cap', rfl⟩, hmk3, hM3, hO3, hB3⟩; obtain ⟨e0, e1, e2⟩ := cell3 hmk3; have ef : w3.frozen? ⟨mk, 1, none⟩ = false := by { simp [World.frozen?, hmk3] })
          go_roundw)
        case rel => exact ⟨k + 1, .slice a' n' cap', by omega, rfl, by go_num, by rw [List.append_assoc, ← List.replicate_succ'] at hM3; exact ⟨hM3, (unhide HO).1.trans hO3, (unhide HO).2.trans hB3⟩⟩
        case rel => exact ⟨k + 1, .slice a' n' cap', by omega, rfl, by go_num, by rw [List.append_assoc, ← List.replicate_succ'] at hM3; exact ⟨hM3, (unhide HO).1.trans hO3, (unhide HO).2.trans hB3⟩⟩
        all_goals (simp [RowKit.intOf]; omega)
      · have hkn : ¬ ((k : Int) < (n : Int)) := by omega
        have e : k = n := by omega
        subst e
        have HQ := hide (And.intro hM (And.intro hO hB))
        clear hM hO hB
        go_wp2
        refine bodyPost_end (results_none rfl _ _ _) rfl ?_
        exact unhide hQ wr v1 vl2 (unhide HQ).1 (unhide HQ).2.1 (unhide HQ).2.2
theorem put_any (w : World) (B mk bn m : Nat) (v vl vb : Value) (bs : List (List El)) (ls : List Int) (xs : List El) (h : MakAt w B mk bn m v vl vb bs ls xs) (g o c : Nat) (b : List El) (hb : OkB b) (hc : ∀ j x, b[j]? = some x → w.cell? ⟨g, o + j, none⟩ = some (enc x)) (hg : blk v ≠ some g) (n : Nat) (hl : bs.length ≤ 17408) (hn : ls.length + n ≤ 17408) :
    Calls Try.prog 112 #[.pointer (some ⟨mk, 0, none⟩), .slice (some ⟨g, o, none⟩) 64 c, .int .i64 n] w fun e w' => e = .returned (.tuple #[]) ∧ ∃ v' vl', MakAt w' B mk bn m v' vl' vb (numS bs b).1 (ls ++ List.replicate n ((numS bs b).2 : Int)) xs ∧ MakK w w' (Own mk bn m v vl vb) (Own mk bn m v' vl' vb) ∧ Below B w w' :=
  put_q _ w B mk bn m v vl vb bs ls xs h g o c b hb hc hg n hl hn (hide fun w' v' vl' h1 h2 h3 => ⟨rfl, v', vl', h1, h2, h3⟩)
end Go.Proofs.Ytokillomaemocaa.VI
