/-
  These texts, one behind the other: TrRe, TrRi.
-/
import Derived.Test.YtokillomaemocaaTrQo
import Derived.Test.YtokillomaemocaaTrQn
import Derived.Test.YtokillomaemocaaPMay
import Derived.Laws.MakeOwn
/-
  refused: whether Build takes some spans.
-/
namespace Go.Proofs.Ytokillomaemocaa.VK
open Go.RowKit Go.PlainAid Go.Lib Go.PRow Go.TrTk
set_option linter.unusedVariables false
set_option linter.unusedSimpArgs false
theorem may_c (p : Pc Int) : mayB p.lo p.hi = mayC p := rfl
theorem box3 (w : World) (p : Pc Int) : ∃ W, w.alloc (.cells #[.int .i32 p.lo, .int .i32 p.hi, .int .u8 p.val] 72) = W ∧ W.heap.size = w.heap.size + 1 ∧ Below w.heap.size w W ∧ W.cell? ⟨w.heap.size, 0, none⟩ = some (.int .i32 p.lo) ∧ W.cell? ⟨w.heap.size, 1, none⟩ = some (.int .i32 p.hi) ∧ W.cell? ⟨w.heap.size, 2, none⟩ = some (.int .u8 p.val) := by
  refine ⟨_, rfl, by simp, (Below.refl _ w).alloc (Nat.le_refl _) _, ?_, ?_, ?_⟩ <;> (have := heap_alloc_new w (.cells #[.int .i32 p.lo, .int .i32 p.hi, .int .u8 p.val] 72); simp only [World.cell?, this]; rfl)
/-- what is known of the set behind the first k spans -/
def SoFar (ps : List (Pc Int)) (k : Nat) (ws : List Nat) : Prop := (∀ r : Nat, has ws r = true ↔ ∃ q ∈ ps.take k, q.lo ≤ (r : Int) ∧ (r : Int) ≤ q.hi) ∧ ∀ j q, j < k → ps[j]? = some q → ∀ r ∈ ps.take j, meet r q = false
theorem take_mem {ps : List (Pc Int)} {k : Nat} {p q : Pc Int} (hp : ps[k]? = some p) : q ∈ ps.take (k + 1) ↔ q ∈ ps.take k ∨ q = p := by
  rw [List.take_add_one, hp]
  simp
theorem SoFar.more {ps : List (Pc Int)} {k : Nat} {ws us : List Nat} {p : Pc Int} (h : SoFar ps k ws) (hp : ps[k]? = some p) {f t : Nat} (hf : p.lo = (f : Int)) (ht : p.hi = (t : Int)) (h1 : ∀ r, has us r = (has ws r || decide (f ≤ r ∧ r ≤ t))) (h2 : ∀ r, f ≤ r → r ≤ t → has ws r = false) (hft : f ≤ t) (hm : ∀ q ∈ ps, mayC q = true) : SoFar ps (k + 1) us := by
  refine ⟨fun r => ?_, fun j q hj hq r hr => ?_⟩
  · rw [h1 r, Bool.or_eq_true, h.1 r, decide_eq_true_eq]
    constructor
    · rintro (⟨q, hq, e⟩ | e)
      · exact ⟨q, (take_mem hp).2 (.inl hq), e⟩
      · exact ⟨p, (take_mem hp).2 (.inr rfl), by omega, by omega⟩
    · rintro ⟨q, hq, e⟩
      rcases (take_mem hp).1 hq with hq | rfl
      · exact .inl ⟨q, hq, e⟩
      · exact .inr (by omega)
  · by_cases hjk : j < k
    · exact h.2 j q hjk hq r hr
    · have e : j = k := by omega
      subst e
      rw [hp] at hq
      obtain rfl := Option.some.inj hq
      cases hmm : meet r p with
      | false => rfl
      | true =>
        exfalso
        have hr2 := mayC_iff.1 (hm r (List.mem_of_mem_take hr))
        unfold meet at hmm
        simp only [Bool.and_eq_true, decide_eq_true_eq] at hmm
        -- a number that both have
        have hx : has ws (max r.lo.toNat f) = true := (h.1 _).2 ⟨r, hr, by omega, by omega⟩
        rw [h2 _ (by omega) (by omega)] at hx
        cases hx
theorem SoFar.met {ps : List (Pc Int)} {k : Nat} {ws : List Nat} {p : Pc Int} (h : SoFar ps k ws) (hp : ps[k]? = some p) {f t : Nat} (hf : p.lo = (f : Int)) (ht : p.hi = (t : Int)) (h1 : ∃ r, f ≤ r ∧ r ≤ t ∧ has ws r = true) (hm : ∀ q ∈ ps, mayC q = true) : refP ps = (k, 111) := by
  obtain ⟨r, hr1, hr2, hr3⟩ := h1
  obtain ⟨q, hq, hq1, hq2⟩ := (h.1 r).1 hr3
  unfold refP
  rw [(extI_none ps 0).2 hm, metI_at ps 0 k [] p hp ⟨q, by simpa using hq, by unfold meet; simp; omega⟩ (fun j q' hj hq' r' hr' => h.2 j q' hj hq' r' (by simpa using hr'))]
  simp
theorem SoFar.all {ps : List (Pc Int)} {ws : List Nat} (h : SoFar ps ps.length ws) (hm : ∀ q ∈ ps, mayC q = true) : refP ps = (0, 0) := by
  have hd : ps.Pairwise Disj := by
    refine List.pairwise_iff_getElem.2 fun i j hi hj hij => ?_
    exact h.2 j _ hj (List.getElem?_eq_getElem hj) _ (List.mem_take_iff_getElem.2 ⟨i, by omega, rfl⟩)
  unfold refP
  rw [(extI_none ps 0).2 hm, (metI_none ps 0 []).2 ⟨by simp, hd⟩]
theorem ext_at {ps : List (Pc Int)} {k : Nat} {p : Pc Int} (hp : ps[k]? = some p) (hno : mayC p = false) (h : ∀ j q, j < k → ps[j]? = some q → mayC q = true) : refP ps = (k, 110) := by
  unfold refP
  rw [extI_at ps 0 k p hp hno h]
  simp
theorem info64u : (Try.prog.info? 202).map (fun i => (i.zero, i.size, i.bytes)) = some (some (.int .u64 0), 1, 8) := by kernel_rfl
theorem ws_new {w : World} {B g : Nat} {xs : List Value} (h : w.ownsRow B 202 1 (.slice (some ⟨g, 0, none⟩) 17408 17408) 17408 xs) (hx : xs = List.replicate 17408 (.int .u64 0)) : Tk.WsAt w g (List.replicate 17408 0) := by
  rcases h.2 with ⟨h', _⟩ | ⟨g', cap', cur, h', _, hg, _, _, hcs, htake⟩
  · simp at h'
  · simp only [Value.slice.injEq, Option.some.injEq, Addr.mk.injEq, and_true, true_and] at h'
    obtain ⟨rfl, rfl⟩ := h'
    refine ⟨?_, List.length_replicate, fun i => ?_⟩
    · rw [hg]
      have e : cur = (List.map (fun (x : Nat) => Value.int .u64 (x : Int)) (List.replicate 17408 0)).toArray := by
        apply Array.toList_inj.1
        have h2 : cur.toList.length = 17408 := by rw [Array.length_toList, hcs]
        rw [Nat.mul_one, List.take_of_length_le (by omega)] at htake
        rw [htake, hx, List.map_replicate]
        rfl
      rw [e]
    · rw [List.getElem?_replicate]
      split <;> simp
theorem has_new (r : Nat) : has (List.replicate 17408 0) r = false := by
  unfold has
  rw [List.getElem?_replicate]
  split <;> simp
set_option maxRecDepth 100000 in
set_option maxHeartbeats 4000000 in
theorem refused_any (a : Option Addr) (cap : Nat) (ps : List (Pc Int)) (n : Nat) (hn : ps.length = n) (hn2 : n ≤ 1099511627776) (w : World) (h : SpAt w a ps) :
    Calls Try.prog 45 #[.slice a n cap] w fun e w' => e = .returned (.tuple #[.int .i64 ((refP ps).1 : Int), .int .i64 ((refP ps).2 : Int)]) ∧ Below w.heap.size w w' := by
  have HN := hide hn
  have HS := hide h
  clear h hn
  go_enter Try.func45, Try.ntmps45
  go_wp2
  go_loopw [11] (fun v11 wr => ∃ k : Nat, k ≤ n ∧ v11 = .int .i64 (k : Int) ∧ Hid (∀ j q, j < k → ps[j]? = some q → mayC q = true) ∧ Hid (Below w.heap.size w wr)) (fun v11 _ => n - (RowKit.intOf v11).toNat)
  case atStart => exact ⟨0, Nat.zero_le _, rfl, fun j q hj => by omega, Below.refl _ _⟩
  case round =>
    obtain ⟨k, hk, rfl, HM, HB⟩ := hrel
    by_cases hlt : k < n
    · obtain ⟨p, hp⟩ : ∃ p, ps[k]? = some p := ⟨_, List.getElem?_eq_getElem (by rw [unhide HN]; exact hlt)⟩
      obtain ⟨g, off, rfl, hg, c0, c1, c2⟩ := ((unhide HS).below (unhide HB)).get hp
      obtain ⟨W1, hW1, hs1, hb1, d0, d1, d2⟩ := box3 wr p
      have HP := hide hp
      have HB1 := hide ((unhide HB).trans (hb1.mono (unhide HB).size))
      have HMY := hide (may_any p.lo p.hi W1)
      rw [may_c] at HMY
      obtain ⟨my, hmy⟩ : ∃ my, mayC p = my := ⟨_, rfl⟩
      rw [hmy] at HMY
      have HMC := hide hmy
      generalize hlo : p.lo = lo at *
      generalize hhi : p.hi = hi at *
      generalize hvl : p.val = vl at *
      clear hp hb1 hmy hlo hhi hvl
      cases my with
      | true =>
        go_wp2_with (go_at_call 84; with_reducible refine (unhide HMY).mono ?_; rintro e w' ⟨rfl, hww⟩; have HWW := hide hww; clear hww)
        go_roundw
        case rel =>
          refine ⟨k + 1, by omega, by go_num, fun j q hj hq => ?_, by rw [unhide HWW]; exact (unhide HB1).alloc (unhide HB1).size _⟩
          by_cases hjk : j < k
          · exact unhide HM j q hjk hq
          · have e : j = k := by omega
            subst e
            rw [unhide HP] at hq
            obtain rfl := Option.some.inj hq
            exact unhide HMC
        case measure => simp [RowKit.intOf]; omega
      | false =>
        go_wp2_with (go_at_call 84; with_reducible refine (unhide HMY).mono ?_; rintro e w' ⟨rfl, hww⟩; have HWW := hide hww; clear hww)
        go_ret2
        rw [ext_at (unhide HP) (unhide HMC) (unhide HM)]
        exact ⟨rfl, by rw [unhide HWW]; exact (unhide HB1).alloc (unhide HB1).size _⟩
    · have hall : ∀ q ∈ ps, mayC q = true := fun q hq => by
        obtain ⟨i, hi, rfl⟩ := List.getElem_of_mem hq
        exact unhide HM i _ (by rw [unhide HN] at hi; omega) (List.getElem?_eq_getElem hi)
      have HALL := hide hall
      clear hall HM
      generalize wr = Wr at *
      obtain ⟨i0, hi0, hz0, hzs, hzb⟩ := info_parts info64u
      obtain ⟨w2, hmk, hown, hgr⟩ := run_make_full (P := Try.prog) Wr Wr.heap.size 151 202 i0 (.int .u64 0) 1 Try.underlying151 hi0 hz0 hzs .i64 .i64 17408 (by rw [hzb]; omega) (by unfold maxLen; omega) (Nat.le_refl _)
      have hws := ws_new hown (by show (madeCells #[Value.int .u64 0] (17408 * 1)).toList = _; rw [toList_madeCells_one, Nat.mul_one])
      have hb2 : Below Wr.heap.size Wr w2 := (Below.refl _ Wr).grown hgr (Nat.le_refl _) (fun k hk => by cases hk)
      have HW2 := hide (And.intro hws (And.intro hb2 ((unhide HB).trans (hb2.mono (unhide HB).size))))
      have hwr : w.heap.size ≤ Wr.heap.size := (unhide HB).size
      have HWR := hide hwr
      have hk17 : (17408 : Int) = ((17408 : Nat) : Int) := rfl
      have hmk2 : (Instr.makeSlice 151 (.int .i64 17408) (.int .i64 17408)).run Try.prog Wr = .ok (.slice (some ⟨Wr.heap.size, 0, none⟩) 17408 17408) w2 := hmk
      clear hmk hown hgr hws hb2 hwr hi0 hz0 hzs hzb hk17
      generalize Wr.heap.size = G at *
      go_wp2
      go_loopw [28] (fun v28 wx => ∃ (k : Nat) (ws : List Nat), k ≤ n ∧ v28 = .int .i64 (k : Int) ∧ Hid (Tk.WsAt wx G ws ∧ SoFar ps k ws ∧ Below w.heap.size w wx)) (fun v28 _ => n - (RowKit.intOf v28).toNat)
      case atStart =>
        refine ⟨0, _, Nat.zero_le _, rfl, (unhide HW2).1, ⟨fun r => ?_, fun j q hj => by omega⟩, (unhide HW2).2.2⟩
        rw [has_new]
        simp
      case round =>
        obtain ⟨k2, ws, hk2, rfl, HX⟩ := hrel
        by_cases hlt2 : k2 < n
        · obtain ⟨p, hp⟩ : ∃ p, ps[k2]? = some p := ⟨_, List.getElem?_eq_getElem (by rw [unhide HN]; exact hlt2)⟩
          have hmp := mayC_iff.1 (unhide HALL p (List.mem_of_getElem? hp))
          obtain ⟨f, hf⟩ : ∃ f : Nat, p.lo = (f : Int) := ⟨p.lo.toNat, by omega⟩
          obtain ⟨t, ht⟩ : ∃ t : Nat, p.hi = (t : Int) := ⟨p.hi.toNat, by omega⟩
          obtain ⟨g, off, rfl, hg, c0, c1, c2⟩ := ((unhide HS).below (unhide HX).2.2).get hp
          obtain ⟨W1, hW1, hs1, hb1, d0, d1, d2⟩ := box3 wr p
          have HP := hide (And.intro hp (And.intro hf ht))
          have hft : f ≤ t := by omega
          have ht17 : t < 1114112 := by omega
          have hG : G < wr.heap.size := (Array.getElem?_eq_some_iff.1 (unhide HX).1.hh).1
          have hws1 : Tk.WsAt W1 G ws := ⟨(hb1.block G hG).trans (unhide HX).1.hh, (unhide HX).1.len, (unhide HX).1.small⟩
          have HW1 := hide (And.intro hws1 ((unhide HX).2.2.trans (hb1.mono (unhide HX).2.2.size)))
          have HTK := hide (fun (Q : Ending → World → Prop) hT hF => Tk.take_any Q W1 w.heap.size G 17408 (unhide HWR) ws hws1 f t hft ht17 hT hF)
          rw [hf] at c0 d0 hW1
          rw [ht] at c1 d1 hW1
          generalize p.val = vl at *
          clear hp hf ht hb1 hws1 hmp hG
          go_wp2_with fail
          refine unhide HTK _ (hide fun w' us h1 h2 h3 h4 h5 => ?_) (hide fun w' h1 h2 h3 => ?_)
          · have HF := hide (And.intro h1 (And.intro ((unhide HX).2.1.more (unhide HP).1 (unhide HP).2.1 (unhide HP).2.2 h2 h3 hft (unhide HALL)) ((unhide HW1).2.trans h4)))
            clear h1 h2 h3 h4 h5
            go_wp2
            go_roundw
            case rel => exact ⟨k2 + 1, us, by omega, by go_num, unhide HF⟩
            case measure => simp [RowKit.intOf]; omega
          · have HF := hide (And.intro ((unhide HX).2.1.met (unhide HP).1 (unhide HP).2.1 (unhide HP).2.2 h1 (unhide HALL)) ((unhide HW1).2.trans h2))
            clear h1 h2 h3
            go_wp2
            go_ret2
            rw [(unhide HF).1]
            exact ⟨rfl, (unhide HF).2⟩
        · have hkn : k2 = n := by omega
          have HF := hide (show refP ps = (0, 0) ∧ Below w.heap.size w wr from ⟨(by have h := (unhide HX).2.1; rw [hkn, ← unhide HN] at h; exact h.all (unhide HALL)), (unhide HX).2.2⟩)
          clear hkn
          go_wp2
          go_ret2
          rw [(unhide HF).1]
          exact ⟨rfl, (unhide HF).2⟩
end Go.Proofs.Ytokillomaemocaa.VK
/-
  rising: spans sorted by their beginnings, in a list of their own.
-/
namespace Go.Proofs.Ytokillomaemocaa.VK
open Go.RowKit Go.PlainAid Go.Lib Go.PRow
set_option linter.unusedVariables false
set_option linter.unusedSimpArgs false
theorem rising_any (a : Option Addr) (cap : Nat) (ps : List (Pc Int)) (n : Nat) (hn : ps.length = n) (hn2 : n ≤ 1099511627776) (hc : n ≤ cap) (w : World) (h : SpAt w a ps) :
    Calls Try.prog 47 #[.slice a n cap] w fun e w' => ∃ v, e = .returned v ∧ ∃ qs : List (Pc Int), qs.Perm ps ∧ qs.Pairwise (fun p q => p.lo ≤ q.lo) ∧ RowP w' w.heap.size v qs ∧ Below w.heap.size w w' := by
  have HC := hide (clone_any a cap ps n hn (by omega) w h hc)
  have HN := hide hn
  clear h hn
  go_enter Try.func47, Try.ntmps47
  go_wp2_with fail
  with_reducible refine (unhide HC).mono ?_
  rintro e w1 ⟨v, rfl, hr, hb⟩
  have HS := hide (sort_row w.heap.size v ps w1 hr (by rw [unhide HN]; omega))
  have HB := hide hb
  have HL := hide (fun k hk => (RowV.lt hr k hk).1)
  clear hr hb
  go_wp2_with fail
  with_reducible refine (unhide HS).mono ?_
  rintro e w2 ⟨rfl, qs, h1, h2, h3, h4⟩
  have HF := hide (And.intro h1 (And.intro h2 (And.intro h3 ((unhide HB).grown h4 (unhide HB).size (unhide HL)))))
  clear h1 h2 h3 h4
  go_wp2
  go_ret
  exact ⟨_, rfl, qs, unhide HF⟩
end Go.Proofs.Ytokillomaemocaa.VK
