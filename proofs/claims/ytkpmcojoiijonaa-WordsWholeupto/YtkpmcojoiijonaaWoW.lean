/-
  Write of package words, the document's Write, and the law's same.
-/
import Derived.Test.YtkpmcojoiijonaaWoB
import Derived.Test.YtkpmcojoiijonaaWoR
import Derived.Test.YtkpmcojoiijonaaWoShelf
import Derived.Deep.QuietTactic
import Derived.BigQuiet
namespace Go.Proofs.Ytkpmcojoiijonaa
open Go.RowKit Go.PlainAid Go.Lib
set_option linter.unusedVariables false

def okB (c : Int) : Bool := decide (argE (shortS c) = 0)
def wrL (zs : List Int) : List (List UInt8) := zs.map fun c => (shortS c).data.toList
def wrT (zs : List Int) : ByteArray := ⟨(Lib.join (wrL zs) [32]).toArray⟩
def wrS (zs : List Int) : ByteArray := if zs.all okB then wrT zs else ⟨#[]⟩
def wrE (zs : List Int) : Int := if zs.all okB then 0 else 2
theorem arg_two (t : ByteArray) : argE t = 0 ∨ argE t = 2 := by unfold argE; split <;> simp
theorem wr_yes (zs : List Int) (h : ∀ c ∈ zs, okB c = true) : wrS zs = wrT zs ∧ wrE zs = 0 := by
  have : zs.all okB = true := List.all_eq_true.2 h
  unfold wrS wrE; rw [this]; exact ⟨rfl, rfl⟩
theorem wr_no (zs : List Int) (c : Int) (hc : c ∈ zs) (h : okB c = false) : wrS zs = ⟨#[]⟩ ∧ wrE zs = 2 := by
  have : zs.all okB = false := by
    rw [Bool.eq_false_iff]; intro ha
    have := List.all_eq_true.1 ha c hc
    rw [h] at this; cases this
  unfold wrS wrE; rw [this]; exact ⟨rfl, rfl⟩
theorem join_snoc32 (x : List UInt8) : ∀ l : List (List UInt8), Lib.join (l ++ [x]) [32] = if l = [] then x else Lib.join l [32] ++ [32] ++ x
  | [] => by simp [Lib.join, List.intercalate]
  | [y] => by simp [Lib.join, List.intercalate, List.intersperse]
  | y :: z :: r => by
    have h := join_snoc32 x (z :: r)
    have e : ∀ (a b : List UInt8) (q : List (List UInt8)), Lib.join (a :: b :: q) [32] = a ++ ([32] ++ Lib.join (b :: q) [32]) := fun a b q => by simp [Lib.join, List.intercalate, List.intersperse]
    rw [if_neg (by simp)] at h ⊢
    rw [List.cons_append, List.cons_append, e, e, ← List.cons_append, h]
    simp
theorem toA_append (a b : List UInt8) : (⟨(a ++ b).toArray⟩ : ByteArray) = ⟨a.toArray⟩ ++ ⟨b.toArray⟩ := by
  refine bytes_ext ?_ ?_
  · rw [ByteArray.size_append]; simp [ByteArray.size]
  · intro k hk
    have e1 : (⟨a.toArray⟩ : ByteArray).size = a.length := by simp [ByteArray.size]
    have e2 : (⟨b.toArray⟩ : ByteArray).size = b.length := by simp [ByteArray.size]
    have e3 : (⟨(a ++ b).toArray⟩ : ByteArray).size = a.length + b.length := by simp [ByteArray.size]
    have hg : ∀ (l : List UInt8) (j : Nat) (h : j < l.length), bN ⟨l.toArray⟩ j = (l[j]).toNat := by
      intro l j h
      unfold bN
      rw [get_in _ _ (by simp [ByteArray.size]; exact h)]; rfl
    rw [e3] at hk
    rw [bN_append, e1, hg _ _ (by simp; omega)]
    split
    · rename_i h; rw [hg _ _ h, List.getElem_append_left h]
    · rename_i h; rw [hg _ _ (by omega), List.getElem_append_right (by omega)]
theorem data_self (t : ByteArray) : (⟨t.data.toList.toArray⟩ : ByteArray) = t := by cases t; simp
theorem wrT_snoc (zs : List Int) (c : Int) : wrT (zs ++ [c]) = if zs = [] then shortS c else wrT zs ++ ⟨#[32]⟩ ++ shortS c := by
  have h := join_snoc32 (shortS c).data.toList (wrL zs)
  have e : wrL (zs ++ [c]) = wrL zs ++ [(shortS c).data.toList] := by simp [wrL]
  unfold wrT
  rw [e, h]
  by_cases hz : zs = []
  · subst hz
    rw [if_pos (show wrL [] = [] from rfl), if_pos rfl]
  · rw [if_neg hz, if_neg (by simpa [wrL] using hz), toA_append, toA_append, data_self]
theorem short_size (c : Int) (h0 : 0 ≤ c) : (shortS c).size ≤ 4 := by
  by_cases h : c < 24
  · have : ∀ k : Fin 24, (shortS ((k.1 : Nat) : Int)).size ≤ 4 := by decide +kernel
    have := this ⟨c.toNat, by omega⟩
    have e : ((c.toNat : Nat) : Int) = c := by omega
    rw [← e]; exact this
  · rw [short_out c (by omega)]; decide
theorem lens_le : ∀ (zs : List Int), FitsB zs → Lib.lens (wrL zs) ≤ 4 * zs.length := by
  intro zs
  induction zs with
  | nil => intro _; simp [wrL, Lib.lens]
  | cons c zs ih =>
    intro h
    have h1 := ih (fun x hx => h x (by simp [hx]))
    have h2 := short_size c (h c (by simp)).1
    have e : (shortS c).data.toList.length = (shortS c).size := by rw [Array.length_toList]; rfl
    simp only [wrL, Lib.lens, List.map_cons, List.sum_cons, List.length_cons] at h1 ⊢
    omega
theorem wrT_size (zs : List Int) (h : FitsB zs) : (wrT zs).size ≤ 5 * zs.length := by
  have e : (wrT zs).size = (Lib.join (wrL zs) [32]).length := by simp [wrT, ByteArray.size]
  rw [e]
  have hl := lens_le zs h
  cases zs with
  | nil => simp [wrL, Lib.join, List.intercalate]
  | cons c zs =>
    have := Lib.join_length (shortS c).data.toList (wrL zs) [32]
    have e2 : wrL (c :: zs) = (shortS c).data.toList :: wrL zs := rfl
    have e3 : (wrL zs).length = zs.length := by simp [wrL]
    rw [e2, this, ← e2, e3]
    simp only [List.length_cons, List.length_nil] at hl ⊢; omega
theorem okB_yes (c : Int) (h : argE (shortS c) = 0) : okB c = true := by unfold okB; simp [h]
theorem okB_no (c : Int) (h : argE (shortS c) = 2) : okB c = false := by unfold okB; simp [h]
theorem infoStr : (Try.prog.info? 9).map (fun i => (i.zero, i.size, i.bytes)) = some (some (.string ⟨#[]⟩), 1, 16) := by kernel_rfl
abbrev namesV (zs : List Int) : List Value := zs.map fun c => .string (shortS c)
theorem namesV_snoc (zs : List Int) (c : Int) : namesV (zs ++ [c]) = namesV zs ++ [.string (shortS c)] := by simp [namesV]

set_option maxRecDepth 100000 in
set_option maxHeartbeats 2000000 in
theorem write_any (a : Option Addr) (cap : Nat) (zs : List Int) (w : World) (hr : ReadsB w a zs) (hf : FitsB zs) (hn : zs.length ≤ 1099511627776) :
    Calls Try.prog 34 #[.slice a zs.length cap] w fun e w' => e = .returned (.tuple #[.string (wrS zs), .int .i64 (wrE zs)]) ∧ Below w.heap.size w w' := by
  obtain ⟨i0, hi, hz0, hz1, hz2⟩ := info_parts infoStr
  have HR := hide hr
  have HF := hide hf
  have hts := wrT_size zs hf
  clear hr hf
  generalize hL : zs.length = L at *
  have HL := hide hL
  clear hL
  go_enter Try.func34, Try.ntmps34
  obtain ⟨w2, hmk, hown, hgr⟩ := run_make_own (P := Try.prog) w w.heap.size 58 9 i0 (.string ⟨#[]⟩) 1 Try.underlying58 hi hz0 hz1 .i64 .i64 L (by rw [hz2]; omega) (by unfold maxLen; omega) (Nat.le_refl _)
  have hb2 : Below w.heap.size w w2 := (Below.refl _ w).grown hgr (Nat.le_refl _) (fun k e => by cases e)
  go_wp2
  go_loopw [4, 14] (fun v4 v14 wr => ∃ k : Nat, k ≤ L ∧ v14 = .int .i64 k ∧ Hid (∀ c ∈ zs.take k, okB c = true) ∧ wr.ownsRow w.heap.size 9 1 v4 k (namesV (zs.take k)) ∧ Below w.heap.size w wr) (fun _ v14 _ => L - (RowKit.intOf v14).toNat)
  case atStart => exact ⟨0, Nat.zero_le _, rfl, (by intro c hc; simp at hc), by simpa using hown, hb2⟩
  case round =>
    clear hmk hown hgr
    obtain ⟨k, hk, rfl, HO, hrow, hB⟩ := hrel
    by_cases hlt : k < L
    · have hkz : k < zs.length := by rw [unhide HL]; exact hlt
      obtain ⟨g, off, rfl, hcell⟩ := (unhide HR).below hB k hkz
      have hft := (unhide HF).at k
      have hts2 : zs.take (k + 1) = zs.take k ++ [zs.getD k 0] := take_snoc' zs k hkz
      have hmem : zs.getD k 0 ∈ zs := by rw [List.getD_eq_getElem?_getD, List.getElem?_eq_getElem hkz]; exact List.getElem_mem hkz
      simp only [List.getD_eq_getElem?_getD] at hcell hft hts2 hmem
      generalize hc : zs[k]?.getD 0 = c at *
      rcases arg_two (shortS c) with ha | ha
      · have HO2 : Hid (∀ c ∈ zs.take (k + 1), okB c = true) := by
          intro x hx
          rw [hts2] at hx
          rcases List.mem_append.1 hx with h | h
          · exact HO.out x h
          · rw [List.mem_singleton.1 h]; exact okB_yes c ha
        have HN : Hid (namesV (zs.take (k + 1)) = namesV (zs.take k) ++ [.string (shortS c)]) := by show _ = _; rw [hts2, namesV_snoc]
        have HA := hide ha
        have hBs := hB.size
        obtain ⟨va, vc, rfl⟩ := row_sliceC hrow
        clear ha hts2 hc hmem
        go_wp2_with (first | (go_at_call 25; refine (shortW_any _ wr).mono ?_; rintro e w' ⟨rfl, hw⟩; obtain rfl : wr = w' := hw.symm; rw [unhide HA]) | (at_builtin; refine wpList_append_own _ rfl _ _ 58 rfl w.heap.size 9 i0 (.string ⟨#[]⟩) 1 16 Try.underlying58 hi hz0 hz1 hz2 rfl (by decide) _ _ _ rfl (hrow.alloc _) ⟨wr.heap.size, 0, none⟩ 1 1 [.string (shortS c)] rfl rfl (cell_one_new _ _ _) (by simp [Value.oneCell']) (by unfold maxLen; omega) (by omega) (by simp; omega) ?_; intro v' w4 hown' hgrow _))
        have hB2 := (hB.alloc hBs _).grown hgrow (by simp; omega) (own_base hrow)
        go_roundw
        case rel => exact ⟨k + 1, by omega, by go_num, HO2, by rw [unhide HN]; exact hown', hB2⟩
        case measure => simp [RowKit.intOf]; omega
      · have HW := hide (wr_no zs c hmem (okB_no c ha))
        have HA := hide ha
        clear ha hts2 hc hmem
        go_wp2_with (go_at_call 25; refine (shortW_any _ wr).mono ?_; rintro e w' ⟨rfl, hw⟩; obtain rfl : wr = w' := hw.symm; rw [unhide HA])
        go_ret2
        exact ⟨ret_str2 (unhide HW).1.symm (unhide HW).2.symm, hB⟩
    · obtain rfl : k = L := by omega
      have hte : zs.take k = zs := List.take_of_length_le (by rw [unhide HL]; exact Nat.le_refl _)
      rw [hte] at hrow HO
      have HW := hide (wr_yes zs HO.out)
      obtain ⟨va, vc, rfl⟩ := row_sliceC hrow
      have hd : (zs.map shortS).map (·.data.toList) = wrL zs := by rw [List.map_map]; rfl
      have hlen : (zs.map shortS).length = k := by rw [List.length_map]; exact unhide HL
      have HJ : Hid (Calls Try.prog 50 #[.slice va k vc, .string ⟨#[32]⟩] wr fun e w' => e = .returned (.string (wrT zs)) ∧ Below wr.heap.size wr w') := by
        by_cases h0 : k = 0
        · subst h0
          have hz : zs = [] := List.eq_nil_of_length_eq_zero (unhide HL)
          subst hz
          refine (Try.strings_Join_none va vc _ wr).mono fun e w' h => ⟨h.1, by rw [h.2]; exact Below.refl _ _⟩
        · obtain ⟨g, hva, hg, hcp⟩ : ∃ g, va = some ⟨g, 0, none⟩ ∧ g < wr.heap.size ∧ k ≤ vc := by
            rcases hrow.2 with ⟨_, h⟩ | ⟨g, cap', cur, h, _, h3, h1, _⟩
            · omega
            · simp only [Value.slice.injEq] at h
              exact ⟨g, h.1, (Array.getElem?_eq_some_iff.1 h3).1, by rw [h.2.2]; exact h1⟩
          subst hva
          have := Try.strings_Join g 0 vc (zs.map shortS) ⟨#[32]⟩ wr (fun j x hx => by
            have hj : j < k := by rw [← hlen]; exact (List.getElem?_eq_some_iff.1 hx).1
            rw [Nat.zero_add, hrow.cellAt j (by omega)]
            rw [List.getElem?_map] at hx ⊢
            obtain ⟨y, hy, rfl⟩ := Option.map_eq_some_iff.1 hx
            rw [hy]; rfl) hg (by omega) (by omega) (by
              rw [hd]
              have e : (wrT zs).size = (Lib.join (wrL zs) [32]).length := by simp [wrT, ByteArray.size]
              show (Lib.join (wrL zs) [32]).length ≤ _
              omega)
          rw [hd, hlen] at this
          exact this
      clear hd hlen hrow hte
      go_wp2_with fail
      refine (unhide HJ).mono ?_
      rintro e w5 ⟨rfl, hb5⟩
      go_wp2
      go_ret2
      exact ⟨ret_str2 (unhide HW).1.symm (unhide HW).2.symm, hB.trans (hb5.mono hB.size)⟩
end Go.Proofs.Ytkpmcojoiijonaa
