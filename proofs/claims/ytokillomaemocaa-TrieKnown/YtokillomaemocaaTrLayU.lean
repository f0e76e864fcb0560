/-
  Values laid: so many of one; a new maker.
-/
import Derived.Test.YtokillomaemocaaTrAddU
import Derived.Test.YtokillomaemocaaTrRepU
namespace Go.Proofs.Ytokillomaemocaa.VU
open Go.RowKit Go.PlainAid Go.Lib Go.PRow Go.Maps Go.TrM
set_option linter.unusedVariables false
set_option linter.unusedSimpArgs false
set_option maxRecDepth 100000 in
set_option maxHeartbeats 4000000 in
theorem lay_any (Q : Ending → World → Prop) (w : World) (B mk : Nat) (o : Nat → Prop) (vs : List El) (x : El) (c : Nat) (h : MakV w B mk o vs) (hx : okE x) (hl : vs.length + c ≤ 1114112)
    (hQ : Hid (∀ w' o', MakV w' B mk o' (vs ++ List.replicate c x) → MakK w w' o o' → Below B w w' → Q (.returned (.tuple #[])) w')) : Calls Try.prog 48 #[.pointer (some ⟨mk, 0, none⟩), enc x, .int .i64 c] w Q := by
  have HX := hide hx
  have HV := hide h
  clear hx h
  go_enter Try.func48, Try.ntmps48
  go_wp2_with fail
  go_loopw [2] (fun v2 wr => ∃ (k : Nat) (o2 : Nat → Prop), k ≤ c ∧ v2 = .int .i64 ((c - k : Nat) : Int) ∧ MakV wr B mk o2 (vs ++ List.replicate k x) ∧ MakK w wr o o2 ∧ Below B w wr) (fun v2 _ => (RowKit.intOf v2).toNat)
  case atStart => exact ⟨0, o, Nat.zero_le _, rfl, by simpa using unhide HV, MakK.refl _ _, Below.refl _ _⟩
  case round =>
    obtain ⟨k, o2, hk, rfl, hV, hO, hB⟩ := hrel
    clear HV
    by_cases hlt : k < c
    · have hpos : (0 : Int) < ((c - k : Nat) : Int) := by omega
      obtain ⟨bn, m, v, vl, vb, rfl, hM, hok⟩ := hV
      obtain ⟨c0, c1, c2⟩ := cell3 hM.hk
      have hbl := restB_len (vs ++ List.replicate k x)
      obtain ⟨a, cap, e, hcap1, hcap2, _⟩ := hM.hb.form
      have hlen : (vs ++ List.replicate k x).length = vs.length + k := by simp
      rw [hlen] at hbl
      rw [hbl] at e
      have HM := hide (And.intro hM (And.intro hok (And.intro hO hB)))
      clear hM hok hO hB hcap1 hcap2 hlen hbl
      by_cases hb0 : (vs.length + k) % 64 = 0
      · rw [hb0] at e
        subst e
        by_cases hb1 : 64 ≤ c - k
        · have hb2 : (64 : Int) ≤ ((c - k : Nat) : Int) := by omega
          have hal : Below wr.heap.size wr (wr.alloc (.cells #[enc x] 5)) := (Below.refl _ wr).alloc (Nat.le_refl _) _
          have HRE := hide (repeat_any (wr.alloc (.cells #[enc x] 5)) wr.heap.size x (by simp only [World.cell?, heap_alloc_last]; rfl))
          have HAL := hide hal
          clear hal
          go_wp2_with fail
          refine (unhide HRE).mono ?_
          rintro e w2 ⟨cur, rfl, hh, hs, ht, hB2⟩
          have HR := hide (And.intro hh (And.intro hs (And.intro ht hB2)))
          clear hh hs ht hB2
          go_wp2_with fail
          have hdiv : ((c - k : Nat) : Int) / 64 = (((c - k) / 64 : Nat) : Int) := by omega
          rw [hdiv]
          clear hdiv
          obtain ⟨hM, hok, hO, hB⟩ := unhide HM
          obtain ⟨hh, hs, ht, hB2⟩ := unhide HR
          rw [World.size_alloc] at hh hB2
          have hbw : Below wr.heap.size wr w2 := (unhide HAL).trans (hB2.mono (by omega))
          have hM2 := hM.below hbw
          have hlen : (vs ++ List.replicate k x).length = vs.length + k := by simp
          have hr0 : restB (vs ++ List.replicate k x) = [] := by
            have := restB_len (vs ++ List.replicate k x)
            rw [hlen, hb0] at this
            exact List.length_eq_zero_iff.1 this
          have hwl := whole_le (vs ++ List.replicate k x)
          have hw2 := whole_len (vs ++ List.replicate k x)
          rw [hlen] at hwl hw2
          have hob : OkB (List.replicate 64 x) := ⟨List.length_replicate, fun y hy => by rw [(List.mem_replicate.1 hy).2]; exact unhide HX⟩
          have hcl : ∀ j y, (List.replicate 64 x)[j]? = some y → w2.cell? ⟨wr.heap.size + 1, 0 + j, none⟩ = some (enc y) := fun j y hy => by
            rw [Nat.zero_add]
            exact row_cell hh ht (by omega) j _ (by rw [List.getElem?_map, hy]; rfl)
          have hput := put_any w2 B mk bn m v vl _ _ _ _ hM2 (wr.heap.size + 1) 0 64 (List.replicate 64 x) hob hcl (fun q => by have := (hM.hn.hv.lt _ q).2; omega) ((c - k) / 64) (by omega) (by rw [List.length_map]; omega)
          refine hput.mono ?_
          rintro e w3 ⟨rfl, v3, vl3, hM3, hO3, hB3⟩
          obtain ⟨q1, q2⟩ := put_many (vs := vs ++ List.replicate k x) (x := x) (n := (c - k) / 64) (by rw [hlen]; exact hb0) (by omega)
          rw [List.append_assoc, List.replicate_append_replicate] at q1 q2
          have hV3 : MakV w3 B mk (Own mk bn m v3 vl3 (.slice a 0 cap)) (vs ++ List.replicate (k + 64 * ((c - k) / 64)) x) := by
            refine ⟨bn, m, v3, vl3, _, rfl, ?_, fun y hy => ?_⟩
            · rw [q1, q2, List.map_append, List.map_replicate]
              rw [hr0] at hM3
              exact hM3
            · rcases List.mem_append.1 hy with q | q
              · exact hok y (List.mem_append_left _ q)
              · rw [(List.mem_replicate.1 q).2]; exact unhide HX
          have HF := hide (And.intro hV3 (And.intro (hO.trans (hO3.after hbw)) (hB.trans ((hbw.mono (Nat.le_trans hM.bB (Nat.le_of_lt hM.lt))).trans hB3))))
          clear hput hV3 hM3 hO3 hB3 hM2 hM hok hO hB hh hs ht hB2 hbw hob hcl q1 q2 hwl hw2 hr0 hlen c0 c1 c2
          go_wp2
          go_roundw
          case rel => exact ⟨k + 64 * ((c - k) / 64), _, by omega, by (congr 1; omega), (unhide HF).1, (unhide HF).2.1, (unhide HF).2.2⟩
          case measure => simp [RowKit.intOf]; omega
        · have hb2 : ¬ ((64 : Int) ≤ ((c - k : Nat) : Int)) := by omega
          go_wp2_with fail
          refine add_any _ wr B mk _ (vs ++ List.replicate k x) x ⟨bn, m, v, vl, _, rfl, (unhide HM).1, (unhide HM).2.1⟩ (unhide HX) (by simp; omega) (hide fun w' o' hV' hK' hB' => ?_)
          have hwm : IntKind.i64.wrap (((c - k : Nat) : Int) - 1) = ((c - (k + 1) : Nat) : Int) := by rw [IntKind.wrap_i64]; omega
          have HF := hide (And.intro hV' (And.intro ((unhide HM).2.2.1.trans hK') ((unhide HM).2.2.2.trans hB')))
          clear hV' hK' hB' c0 c1 c2
          go_wp2
          go_roundw
          case rel =>
            have e1 : vs ++ List.replicate k x ++ [x] = vs ++ List.replicate (k + 1) x := by rw [List.append_assoc, ← List.replicate_succ']
            exact ⟨k + 1, o', by omega, rfl, e1 ▸ (unhide HF).1, (unhide HF).2.1, (unhide HF).2.2⟩
          case measure => simp [RowKit.intOf]; omega
      · subst e
        go_wp2_with fail
        refine add_any _ wr B mk _ (vs ++ List.replicate k x) x ⟨bn, m, v, vl, _, rfl, (unhide HM).1, (unhide HM).2.1⟩ (unhide HX) (by simp; omega) (hide fun w' o' hV' hK' hB' => ?_)
        have hwm : IntKind.i64.wrap (((c - k : Nat) : Int) - 1) = ((c - (k + 1) : Nat) : Int) := by rw [IntKind.wrap_i64]; omega
        have HF := hide (And.intro hV' (And.intro ((unhide HM).2.2.1.trans hK') ((unhide HM).2.2.2.trans hB')))
        clear hV' hK' hB' c0 c1 c2
        go_wp2
        go_roundw
        case rel =>
          have e1 : vs ++ List.replicate k x ++ [x] = vs ++ List.replicate (k + 1) x := by rw [List.append_assoc, ← List.replicate_succ']
          exact ⟨k + 1, o', by omega, rfl, e1 ▸ (unhide HF).1, (unhide HF).2.1, (unhide HF).2.2⟩
        case measure => simp [RowKit.intOf]; omega
    · have e : k = c := by omega
      subst e
      have hpos : ¬ ((0 : Int) < ((k - k : Nat) : Int)) := by omega
      have HQ := hide (And.intro hV (And.intro hO hB))
      clear hV hO hB
      go_wp2
      refine bodyPost_end (results_none rfl _ _ _) rfl ?_
      exact unhide hQ wr o2 (unhide HQ).1 (unhide HQ).2.1 (unhide HQ).2.2
end Go.Proofs.Ytokillomaemocaa.VU
