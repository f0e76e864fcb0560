/-
  Build of spans of bytes.
-/
import Derived.Test.YtokillomaemocaaTrQr
import Derived.Test.YtokillomaemocaaTrTrU
namespace Go.Proofs.Ytokillomaemocaa.VK
open Go.RowKit Go.PlainAid Go.Lib Go.PRow Go.TrM
set_option linter.unusedVariables false
set_option linter.unusedSimpArgs false
theorem MakV.below {w w' : World} {B mk : Nat} {o : Nat → Prop} {vs : List Int} (h : VU.MakV w B mk o vs) (b : Below w.heap.size w w') : VU.MakV w' B mk o vs := by
  obtain ⟨bn, m, v, vl, vb, rfl, hM, hok⟩ := h
  exact ⟨bn, m, v, vl, vb, rfl, hM.below b, hok⟩
theorem MakV.lt {w : World} {B mk : Nat} {o : Nat → Prop} {vs : List Int} (h : VU.MakV w B mk o vs) {i : Nat} (hi : o i) : B ≤ i ∧ i < w.heap.size := by
  obtain ⟨bn, m, v, vl, vb, rfl, hM, hok⟩ := h
  exact hM.own hi
/-- a block that is none of the maker's stays none of its, and as it is -/
theorem apart_kept {w w' : World} {o o' : Nat → Prop} (k : VU.MakK w w' o o') {g : Nat} (hg : g < w.heap.size) (ho : ¬ o g) : w'.heap[g]? = w.heap[g]? ∧ ¬ o' g ∧ g < w'.heap.size := by
  refine ⟨k.keep g hg ho, fun h => ?_, Nat.lt_of_lt_of_le hg k.size⟩
  rcases k.own g h with h | h
  · exact ho h
  · omega
/-- how far the numbers are done behind the first k of sorted spans -/
def DoneTo (qs : List (Pc Int)) (k m : Nat) : Prop := m ≤ 1114112 ∧ (∀ j q, j < k → qs[j]? = some q → q.hi < (m : Int)) ∧ (∀ j q, k ≤ j → qs[j]? = some q → (m : Int) ≤ q.lo)
theorem okByte {x : Int} (h0 : 0 ≤ x) (h1 : x < 256) : VU.okE x := by
  show (Lit.int .u8 x).wf = true
  simp [Lit.wf, IntKind.min, IntKind.max, IntKind.signed, IntKind.bits]
  omega
set_option maxRecDepth 100000 in
set_option maxHeartbeats 4000000 in
theorem build_any (Q : Ending → World → Prop) (rest : Int) (hr0 : 0 ≤ rest) (hr1 : rest < 256) (a : Option Addr) (cap : Nat) (ps : List (Pc Int)) (n : Nat) (hn : ps.length = n) (hn2 : n ≤ 1099511627776) (hc : n ≤ cap) (hv : ∀ p ∈ ps, 0 ≤ p.val ∧ p.val < 256) (w : World) (h : SpAt w a ps)
    (hT : Hid ((refP ps).2 = 0 → ∀ w' bt vt vm vl, VU.TrAt w' w.heap.size bt vt vm vl (valsF rest ps) → Below w.heap.size w w' → w.heap.size ≤ bt → Q (.returned (.tuple #[.pointer (some ⟨bt, 0, none⟩), .int .i64 0, .int .i64 0])) w'))
    (hF : Hid ((refP ps).2 ≠ 0 → ∀ w', Below w.heap.size w w' → Q (.returned (.tuple #[.pointer none, .int .i64 ((refP ps).1 : Int), .int .i64 ((refP ps).2 : Int)])) w')) :
    Calls Try.prog 12 #[.int .u8 rest, .slice a n cap] w Q := by
  have HRF := hide (refused_any a cap ps n hn hn2 w h)
  have HN := hide hn
  have HS := hide h
  have HV := hide hv
  clear h hn hv
  by_cases hz : (refP ps).2 = 0
  · rw [hz] at HRF
    have hok := refP_ok.1 hz
    have h1z : (refP ps).1 = 0 := by
      unfold refP at hz ⊢
      cases h1 : extI 0 ps with
      | some i => rw [h1] at hz; cases hz
      | none =>
        rw [h1] at hz
        cases h2 : metI 0 [] ps with
        | some i => rw [h2] at hz; cases hz
        | none => rfl
    rw [h1z] at HRF
    have HOK := hide hok
    have HQ := hide (unhide hT hz)
    clear hT hF hz h1z hok
    go_enter Try.func12, Try.ntmps12
    go_wp2_with fail
    with_reducible refine (unhide HRF).mono ?_
    rintro e w1 ⟨rfl, hb1⟩
    have HB1 := hide hb1
    clear hb1
    go_wp2_with fail
    refine VU.newMaker_any _ w1 (hide fun w2 mk o hM hb => ?_)
    have HM := hide hM
    have HB2 := hide ((unhide HB1).trans (hb.mono (unhide HB1).size))
    have HRI := hide (rising_any a cap ps n (unhide HN) hn2 hc w2 ((unhide HS).below (unhide HB2)))
    clear hM hb
    go_wp2_with fail
    with_reducible refine (unhide HRI).mono ?_
    rintro e w3 ⟨v, rfl, qs, hp, hs, hrow, hb3⟩
    obtain ⟨av, cv, rfl, hcv1, hcv2, _, hcells⟩ := hrow.form
    have hqn : qs.length = n := hp.length_eq.trans (unhide HN)
    have hlt0 : ∀ g, blk (.slice av qs.length cv) = some g → w2.heap.size ≤ g ∧ g < w3.heap.size := fun g hg => RowV.lt hrow g hg
    have hM3 := MakV.below (unhide HM) hb3
    have hap0 : ∀ g, blk (.slice av qs.length cv) = some g → ¬ o g := fun g hg ho => by have := (MakV.lt (unhide HM) ho).2; have := (hlt0 g hg).1; omega
    rw [hqn] at hrow hlt0 hap0 hcv1 ⊢
    have hmay : ∀ q ∈ qs, mayC q = true := fun q hq => (unhide HOK).1 q (hp.subset hq)
    have hsd := sorted_disj hp hs (unhide HOK).1 (unhide HOK).2
    have hval : ∀ q ∈ qs, 0 ≤ q.val ∧ q.val < 256 := fun q hq => unhide HV q (hp.subset hq)
    have hin : ∀ q ∈ qs, ∀ r : Nat, q.lo ≤ (r : Int) → (r : Int) ≤ q.hi → valF rest ps r = q.val := fun q hq r h1 h2 => valF_in (unhide HOK).2 (hp.subset hq) h1 h2
    have hout : ∀ r : Nat, (∀ q ∈ qs, ¬ (q.lo ≤ (r : Int) ∧ (r : Int) ≤ q.hi)) → valF rest ps r = rest := fun r h => valF_out (fun q hq => h q (hp.symm.subset hq))
    have HMATH := hide (And.intro hmay (And.intro hsd (And.intro hval (And.intro hin (And.intro hout hqn)))))
    have HB3 := hide ((unhide HB2).trans (hb3.mono (unhide HB2).size))
    have HI := hide (And.intro hM3 (And.intro hrow (And.intro hlt0 hap0)))
    unfold maxLen at hcv2
    have HB10 := hide (unhide HB1).size
    clear hM3 hrow hlt0 hap0 hmay hsd hval hin hout hqn hp hs hb3 hcells
    go_wp2
    go_loopw [10, 26] (fun v10 v26 wr => ∃ (k m : Nat) (o2 : Nat → Prop), k ≤ n ∧ v26 = .int .i64 (k : Int) ∧ v10 = .int .i32 (m : Int) ∧ Hid (DoneTo qs k m) ∧ Hid (VU.MakV wr w1.heap.size mk o2 ((List.range m).map (valF rest ps)) ∧ RowP wr w2.heap.size (.slice av n cv) qs ∧ (∀ g, blk (.slice av n cv) = some g → ¬ o2 g ∧ g < wr.heap.size) ∧ Below w.heap.size w wr)) (fun _ v26 _ => n - (RowKit.intOf v26).toNat)
    case atStart =>
      refine ⟨0, 0, o, Nat.zero_le _, rfl, rfl, ⟨by omega, fun j q hj => by omega, fun j q hj hq => ?_⟩, (unhide HI).1, (unhide HI).2.1, fun g hg => ⟨(unhide HI).2.2.2 g hg, ((unhide HI).2.2.1 g hg).2⟩, unhide HB3⟩
      have := mayC_iff.1 ((unhide HMATH).1 q (List.mem_of_getElem? hq))
      omega
    case round =>
      obtain ⟨k, m, o2, hk, rfl, rfl, HD, HX⟩ := hrel
      obtain ⟨hmay, hsd, hval, hin, hout, hqn⟩ := unhide HMATH
      by_cases hlt : k < n
      · obtain ⟨p, hpk⟩ : ∃ p, qs[k]? = some p := ⟨_, List.getElem?_eq_getElem (by rw [hqn]; exact hlt)⟩
        have hmp := mayC_iff.1 (hmay p (List.mem_of_getElem? hpk))
        obtain ⟨f, hf⟩ : ∃ f : Nat, p.lo = (f : Int) := ⟨p.lo.toNat, by omega⟩
        obtain ⟨t, ht⟩ : ∃ t : Nat, p.hi = (t : Int) := ⟨p.hi.toNat, by omega⟩
        have hmf : m ≤ f := by have := (unhide HD).2.2 k p (Nat.le_refl _) hpk; omega
        have hft : f ≤ t := by omega
        have ht17 : t < 1114112 := by omega
        obtain ⟨a', c', e, _, _, _, hcl⟩ := (unhide HX).2.1.form
        obtain ⟨g, hga, hgb, hgB, hgl, hcell⟩ := hcl (by intro e0; rw [e0] at hpk; simp at hpk)
        injection e with ea en ec
        clear en
        subst ec
        rw [← ea] at hga
        subst hga
        obtain ⟨c0, c1, c2⟩ := hcell k p hpk
        rw [hf] at c0
        rw [ht] at c1
        obtain ⟨W1, hW1, hs1, hb1, d0, d1, d2⟩ := box3 wr p
        rw [hf] at hW1 d0
        rw [ht] at hW1 d1
        have HA := hide ((unhide HX).2.2.1 g hgb)
        have HROW := hide (unhide HX).2.1
        have HMV := hide (MakV.below (unhide HX).1 hb1)
        have hbx : ¬ o2 wr.heap.size := fun ho => by have := (MakV.lt (unhide HX).1 ho).2; omega
        have HBX := hide hbx
        have HBW := hide (And.intro hb1 ((unhide HX).2.2.2.trans (hb1.mono (unhide HX).2.2.2.size)))
        have hsub1 : IntKind.i32.wrap ((f : Int) - (m : Int)) = ((f - m : Nat) : Int) := by rw [IntKind.wrap_i32]; omega
        have hsub2 : IntKind.i32.wrap ((t : Int) - (f : Int)) = ((t - f : Nat) : Int) := by rw [IntKind.wrap_i32]; omega
        have hadd : IntKind.i32.wrap ((t : Int) + 1) = ((t + 1 : Nat) : Int) := by rw [IntKind.wrap_i32]; omega
        have HPK := hide (And.intro hpk (And.intro hf ht))
        have HKM := hide (And.intro hmf hft)
        have hpv := hval p (List.mem_of_getElem? hpk)
        have HPV := hide hpv
        have HIN := hide (hin p (List.mem_of_getElem? hpk))
        have HVL : Hid (∃ vl, vl = p.val) := ⟨_, rfl⟩
        obtain ⟨vl, hvl⟩ := unhide HVL
        rw [← hvl] at c2 hW1 d2
        have HVE := hide hvl
        clear hvl HVL hpv hpk hf ht hcell hcl ea hgB hbx hb1 hmay hsd hval hin hout hqn hmp hmf HI
        go_wp2_with fail
        refine VU.lay_any _ W1 w1.heap.size mk o2 _ rest (f - m) (unhide HMV) (okByte hr0 hr1) (by have := (unhide HKM).1; have := (unhide HKM).2; rw [List.length_map, List.length_range]; omega) (hide fun w5 o5 hM5 hK5 hb5 => ?_)
        obtain ⟨e5, ho5, hl5⟩ := apart_kept hK5 (g := wr.heap.size) (by omega) (unhide HBX)
        obtain ⟨er5, hor5, hlr5⟩ := apart_kept hK5 (g := g) (by have := (unhide HA).2; omega) (unhide HA).1
        have y0 : w5.cell? ⟨wr.heap.size, 0, none⟩ = some (.int .i32 (f : Int)) := by simp only [World.cell?, e5] at d0 ⊢; exact d0
        have y1 : w5.cell? ⟨wr.heap.size, 1, none⟩ = some (.int .i32 (t : Int)) := by simp only [World.cell?, e5] at d1 ⊢; exact d1
        have y2 : w5.cell? ⟨wr.heap.size, 2, none⟩ = some (.int .u8 vl) := by simp only [World.cell?, e5] at d2 ⊢; exact d2
        have hvs5 : (List.range m).map (valF rest ps) ++ List.replicate (f - m) rest = (List.range f).map (valF rest ps) := by
          have := range_more (valF rest ps) m (f - m) rest (fun r h1 h2 => ?_)
          · rwa [show m + (f - m) = f by have := (unhide HKM).1; omega] at this
          · obtain ⟨hmay, hsd, hval, hin, hout, hqn⟩ := unhide HMATH
            refine hout r (fun q hq hc => ?_)
            obtain ⟨j, hj, rfl⟩ := List.getElem_of_mem hq
            by_cases hjk : j < k
            · have := (unhide HD).2.1 j _ hjk (List.getElem?_eq_getElem hj)
              omega
            · by_cases hjk2 : j = k
              · subst hjk2
                have h3 := (unhide HPK).1
                rw [List.getElem?_eq_getElem hj] at h3
                have h4 := Option.some.inj h3
                have h5 := (unhide HPK).2.1
                rw [h4] at hc
                omega
              · have h3 := List.pairwise_iff_getElem.1 hsd k j (by omega) hj (by omega)
                have h4 := (unhide HPK).1
                rw [List.getElem?_eq_getElem (by omega)] at h4
                have h5 := Option.some.inj h4
                have h6 := (unhide HPK).2
                rw [h5] at h3
                omega
        rw [hvs5] at hM5
        have HM5 := hide hM5
        have HK5 := hide (And.intro hK5 (And.intro ho5 (And.intro hl5 (And.intro er5 (And.intro hor5 (And.intro hlr5 hb5))))))
        obtain ⟨d, hd⟩ : ∃ d, d = t - f := ⟨_, rfl⟩
        rw [← hd] at hsub2
        have hbd : d < 1114112 := by omega
        have hbd2 : (d : Int) + 1 ≤ 9223372036854775807 := by omega
        have HDD := hide hd
        clear hd
        clear hM5 hK5 ho5 hl5 er5 hor5 hlr5 hb5 hvs5 e5 d0 d1 d2
        go_wp2_with fail
        have hlen6 : ((List.range f).map (valF rest ps)).length + (d + 1) ≤ 1114112 := by have := unhide HDD; have := (unhide HKM).2; rw [List.length_map, List.length_range]; omega
        have hpv2 : 0 ≤ vl ∧ vl < 256 := by rw [unhide HVE]; exact unhide HPV
        refine VU.lay_any _ w5 w1.heap.size mk o5 _ vl (d + 1) (unhide HM5) (okByte hpv2.1 hpv2.2) hlen6 (hide fun w6 o6 hM6 hK6 hb6 => ?_)
        obtain ⟨hK5, ho5, hl5, er5, hor5, hlr5, hb5⟩ := unhide HK5
        obtain ⟨e6, ho6, hl6⟩ := apart_kept hK6 (g := wr.heap.size) hl5 ho5
        obtain ⟨er6, hor6, hlr6⟩ := apart_kept hK6 (g := g) hlr5 hor5
        have z1 : w6.cell? ⟨wr.heap.size, 1, none⟩ = some (.int .i32 (t : Int)) := by simp only [World.cell?, e6] at y1 ⊢; exact y1
        have hvs6 : (List.range f).map (valF rest ps) ++ List.replicate (d + 1) vl = (List.range (t + 1)).map (valF rest ps) := by
          have := range_more (valF rest ps) f (d + 1) vl (fun r h1 h2 => ?_)
          · rwa [show f + (d + 1) = t + 1 by have := unhide HDD; have := (unhide HKM).2; omega] at this
          · rw [unhide HVE]
            have h3 := unhide HDD
            have h4 := unhide HPK
            have h5 := (unhide HKM).2
            exact unhide HIN r (by omega) (by omega)
        rw [hvs6] at hM6
        have hrow6 : RowP w6 w2.heap.size (.slice (some ⟨g, 0, none⟩) n cv) qs := (unhide HROW).kept fun g' hg' => by
          have e' : g' = g := by rw [hgb] at hg'; exact (Option.some.inj hg').symm
          subst e'
          exact er6.trans (er5.trans ((unhide HBW).1.block g' (unhide HA).2))
        have hbl6 : Below w.heap.size w w6 := (unhide HBW).2.trans ((hb5.mono (unhide HB10)).trans (hb6.mono (unhide HB10)))
        have hdone : DoneTo qs (k + 1) (t + 1) := by
          obtain ⟨hmay, hsd, hval, hin, hout, hqn⟩ := unhide HMATH
          obtain ⟨p1, p2, p3⟩ := unhide HPK
          refine ⟨by omega, fun j q hj hq => ?_, fun j q hj hq => ?_⟩
          · by_cases hjk : j < k
            · have := (unhide HD).2.1 j q hjk hq
              have := (unhide HKM)
              omega
            · have e : j = k := by omega
              subst e
              rw [p1] at hq
              obtain rfl := Option.some.inj hq
              omega
          · have hjl := (List.getElem?_eq_some_iff.1 hq).1
            have h3 := List.pairwise_iff_getElem.1 hsd k j (by omega) hjl (by omega)
            rw [List.getElem?_eq_getElem hjl] at hq
            rw [List.getElem?_eq_getElem (by omega)] at p1
            have h4 := Option.some.inj hq
            have h5 := Option.some.inj p1
            rw [h4, h5] at h3
            omega
        have HFIN := hide (And.intro hdone (And.intro hM6 (And.intro hrow6 (And.intro (And.intro hor6 hlr6) hbl6))))
        clear hM6 hK6 hb6 hK5 ho5 hl5 er5 hor5 hlr5 hb5 e6 ho6 hl6 er6 hor6 hlr6 hvs6 hrow6 hbl6 hdone y0 y1 y2 hlen6 hpv2
        go_wp2
        go_roundw
        case rel =>
          refine ⟨k + 1, t + 1, o6, by omega, by go_num, by go_num, (unhide HFIN).1, (unhide HFIN).2.1, (unhide HFIN).2.2.1, fun g' hg' => ?_, (unhide HFIN).2.2.2.2⟩
          have e' : g' = g := by rw [hgb] at hg'; exact (Option.some.inj hg').symm
          subst e'
          exact (unhide HFIN).2.2.2.1
        case measure => simp [RowKit.intOf]; omega
      · have hkn : k = n := by omega
        subst hkn
        have hm17 := (unhide HD).1
        have hsub : IntKind.i32.wrap (1114112 - (m : Int)) = ((1114112 - m : Nat) : Int) := by rw [IntKind.wrap_i32]; omega
        have hvs7 : (List.range m).map (valF rest ps) ++ List.replicate (1114112 - m) rest = valsF rest ps := by
          have := range_more (valF rest ps) m (1114112 - m) rest (fun r h1 h2 => ?_)
          · rwa [show m + (1114112 - m) = 1114112 by omega] at this
          · refine hout r (fun q hq hc => ?_)
            obtain ⟨j, hj, rfl⟩ := List.getElem_of_mem hq
            have := (unhide HD).2.1 j _ (by rw [hqn] at hj; exact hj) (List.getElem?_eq_getElem hj)
            omega
        have HV7 := hide hvs7
        have HX2 := hide (And.intro (unhide HX).1 (unhide HX).2.2.2)
        clear hmay hsd hval hin hout hqn hvs7 HI
        generalize wr = W4 at *
        go_wp2_with fail
        refine VU.lay_any _ W4 w1.heap.size mk o2 _ rest (1114112 - m) (unhide HX2).1 (okByte hr0 hr1) (by rw [List.length_map, List.length_range]; omega) (hide fun w7 o7 hM7 hK7 hb7 => ?_)
        rw [unhide HV7] at hM7
        have HM7 := hide (And.intro hM7 ((unhide HX2).2.trans (hb7.mono (unhide HB10))))
        clear hM7 hK7 hb7
        go_wp2_with fail
        refine VU.trie_any _ w7 w1.heap.size mk o7 _ (unhide HM7).1 (by unfold valsF; rw [List.length_map, List.length_range]) (hide fun w8 bt vt vm vl hT hb8 hbt => ?_)
        have HT8 := hide (And.intro hT (And.intro ((unhide HM7).2.trans (hb8.mono (unhide HM7).2.size)) hbt))
        clear hT hb8 hbt
        go_wp2
        show Q (.returned (.tuple #[.pointer (some ⟨bt, 0, none⟩), .int .i64 0, .int .i64 0])) w8
        have hT := (unhide HT8).1
        have hB7 := (unhide HM7).2.size
        have hle := unhide HB10
        exact unhide HQ w8 bt vt vm vl ⟨hT.ht, VW.RowE.mono hT.rt hle, VW.RowE.mono hT.rm hle, VU.RowE.mono hT.rl hle, hT.len⟩ (unhide HT8).2.1 (Nat.le_trans hB7 (unhide HT8).2.2)
  · have HQ := hide (unhide hF hz)
    have hz1 : ¬ (((refP ps).2 : Nat) : Int) = 0 := by omega
    clear hT hF hz
    generalize (refP ps).1 = r1 at *
    generalize (refP ps).2 = r2 at *
    go_enter Try.func12, Try.ntmps12
    go_wp2_with fail
    with_reducible refine (unhide HRF).mono ?_
    rintro e w1 ⟨rfl, hb1⟩
    have HB1 := hide hb1
    clear hb1
    go_wp2
    show Q (.returned (.tuple #[.pointer none, .int .i64 (r1 : Int), .int .i64 (r2 : Int)])) w1
    exact unhide HQ w1 (unhide HB1)
end Go.Proofs.Ytokillomaemocaa.VK
