/-
  Put of numbers of type uint32.
-/
import Derived.Test.YteakbnogfnbpkaaGreatDoorSuLD
import Derived.Laws.MakeOwn
namespace Go.Proofs.YteakbnogfnbpkaaGreatDoor.ND
open Go.RowKit Go.PlainAid Go.Lib Go.SuM
set_option linter.unusedVariables false
set_option linter.unusedSimpArgs false
/-- numbers in memory -/
structure NumsAt (w : World) (ad : Option Addr) (l : List Nat) : Prop where
  at_ : l ≠ [] → ∃ g off, ad = some ⟨g, off, none⟩ ∧ g < w.heap.size ∧ ∀ i (h : i < l.length), w.cell? ⟨g, off + i, none⟩ = some (.int .u32 (l[i] : Int))
  small : ∀ x ∈ l, x < 4294967296
def laidL (l : List Nat) : List UInt8 := l.flatMap (le 4)
theorem laidL_len (l : List Nat) : (laidL l).length = 4 * l.length := by
  induction l with
  | nil => rfl
  | cons x l ih =>
    have e : laidL (x :: l) = le 4 x ++ laidL l := rfl
    rw [e, List.length_append, ih, le_len, List.length_cons]; omega
theorem laidL_snoc (l : List Nat) (x : Nat) : laidL (l ++ [x]) = laidL l ++ le 4 x := by unfold laidL; rw [List.flatMap_append]; simp
theorem NumsAt.below {w w' : World} {ad : Option Addr} {l : List Nat} (h : NumsAt w ad l) (hb : Below w.heap.size w w') : NumsAt w' ad l := by
  refine ⟨fun h0 => ?_, h.small⟩
  obtain ⟨g, off, rfl, hg, hc⟩ := h.at_ h0
  exact ⟨g, off, rfl, Nat.lt_of_lt_of_le hg hb.size, fun i hi => (hb.cell (p := ⟨g, off + i, none⟩) hg).trans (hc i hi)⟩
theorem NumsAt.get {w : World} {a : Option Addr} {l : List Nat} (h : NumsAt w a l) {k : Nat} (hk : k < l.length) : ∃ b off, a = some ⟨b, off, none⟩ ∧ b < w.heap.size ∧ w.cell? ⟨b, off + k, none⟩ = some (.int .u32 (l[k] : Int)) ∧ l[k] < 4294967296 := by
  obtain ⟨b, off, rfl, hb, hc⟩ := h.at_ (by intro e; rw [e] at hk; exact absurd hk (by simp))
  exact ⟨b, off, rfl, hb, hc k hk, h.small _ (List.getElem_mem hk)⟩
set_option maxHeartbeats 2000000 in
theorem put_any (bs : List UInt8) (ad : Option Addr) (ca : Nat) (l : List Nat) (an : Option Addr) (cn : Nat) (w : World) (hb : BytesAt w ad bs) (hlt : ∀ a, ad = some a → bs ≠ [] → a.block < w.heap.size) (hn : NumsAt w an l) (hbig : bs.length + 4 * l.length ≤ 140737488355328) :
    Calls Tryz.prog 134 #[.slice ad bs.length ca, .slice an l.length cn] w fun e w' => ∃ s', e = .returned s' ∧ OwnB w' w.heap.size s' (bs ++ laidL l) ∧ Below w.heap.size w w' := by
  obtain ⟨i0, hi0, hz0, hzs, hzb⟩ := info_parts info8
  have HSZ := hide (size_any (l.length : Int) (by omega) (by omega) w)
  have hmx : 4 * max (l.length : Int) 0 = 4 * (l.length : Int) := by omega
  obtain ⟨w2, hmk0, hown, hgr⟩ := run_make_own (P := Tryz.prog) w w.heap.size 223 5 i0 (.int .u8 0) 1 Tryz.underlying223 hi0 hz0 hzs .i64 .i64 (bs.length + 4 * l.length) (by rw [hzb]; omega) (by unfold maxLen; omega) (Nat.le_refl _)
  have hmk : (Instr.makeSlice 223 (.int .i64 0) (.int .i64 ((bs.length : Int) + 4 * (l.length : Int)))).run Tryz.prog w = .ok (.slice (some ⟨w.heap.size, 0, none⟩) 0 (bs.length + 4 * l.length)) w2 := by
    rw [show ((bs.length : Int) + 4 * (l.length : Int)) = ((bs.length + 4 * l.length : Nat) : Int) by omega]
    exact hmk0
  have hb2 : Below w.heap.size w w2 := (Below.refl _ _).grown hgr (Nat.le_refl _) (fun k hk => by cases hk)
  have hby2 : BytesAt w2 ad bs := fun h0 => by
    obtain ⟨a, rfl, hc⟩ := hb h0
    exact ⟨a, rfl, fun j u hj => (hb2.cell (p := a.add j) (by have := hlt a rfl h0; unfold Addr.add; split <;> exact this)).trans (hc j u hj)⟩
  have hO2 : OwnB w2 w.heap.size (.slice (some ⟨w.heap.size, 0, none⟩) 0 (bs.length + 4 * l.length)) [] := hown
  obtain ⟨v3, w3, hap, hO3, hb3⟩ := append_any8 w2 w.heap.size _ [] ca ad bs hby2 hO2 hb2.size (by simp; omega) 223
  rw [List.nil_append] at hO3
  have HN := hide (fun (w' : World) (h : Below w.heap.size w w') => hn.below h)
  have HB3 := hide (hb2.trans hb3)
  have HO3 := hide hO3
  clear hmk0 hown hgr hby2 hO2 hO3 hb3 hb hlt hn hb2
  generalize hnl : l.length = n at *
  generalize hml : bs.length = m at *
  have HNL := hide hnl
  have HML := hide hml
  clear hnl hml
  go_enter Tryz.func134, Tryz.ntmps134
  go_wp2_with (first | (go_at_call 140; refine (unhide HSZ).mono ?_; rintro e w' ⟨rfl, hww⟩; obtain rfl : w = w' := hww.symm) | (at_builtin; refine wpList_append_run _ rfl _ _ _ _ rfl _ _ rfl rfl v3 w3 hap ?_))
  go_loopw [5, 20] (fun v5 v20 wr => ∃ k : Nat, k ≤ n ∧ v20 = .int .i64 (k : Int) ∧ OwnB wr w.heap.size v5 (bs ++ laidL (l.take k)) ∧ Below w.heap.size w wr) (fun _ v20 _ => n - (intOf v20).toNat)
  case atStart => exact ⟨0, Nat.zero_le _, rfl, by rw [show bs ++ laidL (l.take 0) = bs from List.append_nil bs]; exact unhide HO3, unhide HB3⟩
  case round =>
    obtain ⟨k, hk, rfl, hO, hb⟩ := hrel
    by_cases hlt : k < n
    · have hkl : k < l.length := by rw [unhide HNL]; exact hlt
      obtain ⟨g, off, rfl, hg, hc, hsm⟩ := (unhide HN wr hb).get hkl
      have HS : Hid (bs ++ laidL (l.take (k + 1)) = (bs ++ laidL (l.take k)) ++ le 4 l[k]) := by
        show _ = _
        rw [List.take_succ_eq_append_getElem hkl, laidL_snoc, List.append_assoc]
      have hll : (bs ++ laidL (l.take k)).length + 4 ≤ 140737488355328 := by
        rw [List.length_append, laidL_len, List.length_take, unhide HML, unhide HNL]
        have := Nat.min_le_left k n
        have h1 : 4 * min k n + 4 ≤ 4 * n := by omega
        omega
      have HL := hide (lay_any l[k] hsm w.heap.size _ _ wr hO hb.size hll)
      have HQ := hide hb
      generalize l[k] = x at *
      clear hO hb hll hkl
      go_wp2_with (go_at_call 173; refine (unhide HL).mono ?_; rintro e w4 ⟨s4, rfl, hO4, hb4⟩)
      go_roundw
      case rel => exact ⟨k + 1, by omega, by go_num, by rw [unhide HS]; exact hO4, (unhide HQ).trans hb4⟩
      case measure => simp [intOf]; omega
    · have HE : Hid (l.take k = l) := by
        show _ = _
        have := unhide HNL
        rw [List.take_of_length_le (by omega)]
      have HQ := hide (And.intro hO hb)
      clear hO hb
      go_wp2
      go_ret
      refine ⟨_, rfl, ?_, (unhide HQ).2⟩
      have := (unhide HQ).1
      rw [unhide HE] at this
      exact this
end Go.Proofs.YteakbnogfnbpkaaGreatDoor.ND
