/-
  Classes of paras and of the document, over props made by hand.
-/
import Derived.Test.YtkckkchnmgidgaaPaP
import Derived.Test.YtkckkchnmgidgaaPaMt
import Derived.Test.YtkckkchnmgidgaaMixW
import Derived.Lib.QuietBelow
namespace Go.Proofs.Ytkckkchnmgidgaa
open Go.RowKit Go.PlainAid Go.Lib Go.Sort
set_option linter.unusedVariables false
set_option maxRecDepth 100000
set_option maxHeartbeats 2000000

/-- the class that Classes gives a rune -/
def runeC (rest : Int) (l : List CharD) (r : Int) : Int := cntC (clsC rest l (knR r))
def classesL (rest : Int) (l : List CharD) (rs : List Int) : List Int := rs.map (runeC rest l)
/-- what stands in the list when k runes are done -/
def stC (f : Int → Int) (rs : List Int) : Nat → List Int
  | 0 => List.replicate rs.length 0
  | k + 1 => (stC f rs k).set k (f (rs.getD k 0))
theorem stC_is (f : Int → Int) (rs : List Int) : ∀ k, k ≤ rs.length → stC f rs k = (rs.take k).map f ++ List.replicate (rs.length - k) 0 := by
  intro k
  induction k with
  | zero => intro _; simp [stC]
  | succ k ih =>
    intro hk
    rw [stC, ih (by omega)]
    have hg : rs.getD k 0 = rs[k] := by simp [List.getD, List.getElem?_eq_getElem (show k < rs.length by omega)]
    have hl : ((rs.take k).map f).length = k := by simp; omega
    rw [hg, List.set_append_right _ _ (by omega), hl, Nat.sub_self, show rs.length - k = (rs.length - (k + 1)) + 1 by omega, List.replicate_succ, List.set_cons_zero,
      List.take_succ_eq_append_getElem (by omega), List.map_append]
    simp
theorem stC_end (f : Int → Int) (rs : List Int) : stC f rs rs.length = rs.map f := by rw [stC_is f rs _ (Nat.le_refl _)]; simp
theorem stC_len (f : Int → Int) (rs : List Int) (k : Nat) : (stC f rs k).length = rs.length := by
  induction k with
  | zero => simp [stC]
  | succ k ih => rw [stC, List.length_set, ih]
theorem made_cls (n : Nat) (w : World) (hn : n ≤ 1099511627776) : (Instr.makeSlice 29 (.int .i64 (n : Int)) (.int .i64 (n : Int))).run Try.prog w = .ok (.slice (some ⟨w.heap.size, 0, none⟩) n n) (w.alloc (.cells (u8l (List.replicate n 0)).toArray 22)) := by
  obtain ⟨i0, hi, hz0, hz1, hz2⟩ := info_parts infoClass
  have := run_make (P := Try.prog) w 29 22 i0 (.int .u8 0) Try.underlying29 hi hz0 .i64 .i64 (n : Int) (n : Int) (by omega) (Int.le_refl _) (by rw [hz2]; omega) (by omega)
  rw [this]
  simp only [Int.toNat_natCast, hz1, Nat.mul_one]
  congr 3
  apply Array.ext'
  rw [show (Value.int .u8 0).cells = #[.int .u8 0] from rfl, toList_madeCells_one]
  simp
theorem at_u8 {l : List Int} {k : Nat} (h : k < l.length) : (u8l l)[k]? = some (.int .u8 (l.getD k 0)) := by
  simp [List.getD, List.getElem?_eq_getElem h]
theorem set_u8 (l : List Int) (k : Nat) (v : Int) : (u8l l).set k (.int .u8 v) = u8l (l.set k v) := by simp

theorem nil_props (P : Value) (w : World) : (nilAhead 222 25 P "Class").run Try.prog w = .ok (some false) w := by kernel_rfl
theorem meth_props (P : Value) (w : World) : (Go.method 222 25 P "Class").run Try.prog w = .ok (39, P) w := by kernel_rfl
attribute [local go_sem] nil_props meth_props
theorem classes_nil (n c : Nat) (a : Option Addr) (w : World) : Calls Try.prog 17 #[.nilIface, .slice a n c] w fun e w' => e = .returned (.tuple #[.slice none 0 0, .int .i64 1]) ∧ w' = w := by
  go_enter Try.func17, Try.ntmps17
  go_wp2
  go_ret2
  exact ⟨rfl, rfl⟩
theorem classes_any (rest : Int) (pa : Option Addr) (pn pc : Nat) (l : List CharD) (n c : Nat) (a : Option Addr) (rs : List Int) (w : World) (hpl : l.length = pn) (hp : ReadsC w pa l) (hpn : pn ≤ 1099511627776) (hl : rs.length = n) (h : Reads w a rs) (hn : n ≤ 1099511627776) :
    Calls Try.prog 17 #[.iface 25 (propsV rest pa pn pc), .slice a n c] w fun e w' =>
      e = .returned (.tuple #[.slice (some ⟨w.heap.size, 0, none⟩) n n, .int .i64 0]) ∧ Blk w' w.heap.size (u8l (classesL rest l rs)) 22 ∧ Below w.heap.size w w' := by
  have HA := hide h
  have HLEN := hide hl
  have HCL := hide (fun (w' : World) (r : Int) (hb : Below w.heap.size w w') => class_any rest pa pn pc l r w' hpl (hp.below hb) hpn)
  have hmk := made_cls n w hn
  obtain ⟨W1, hW1⟩ : ∃ W1, w.alloc (.cells (u8l (List.replicate n 0)).toArray 22) = W1 := ⟨_, rfl⟩
  have hB1 : Below w.heap.size w W1 := by rw [← hW1]; exact (Below.refl _ _).alloc (Nat.le_refl _) _
  have hs1 : w.heap.size + 1 ≤ W1.heap.size := by rw [← hW1]; simp
  have hK1 : Blk W1 w.heap.size (u8l (stC (runeC rest l) rs 0)) 22 := by
    rw [← hW1]
    have := Blk.new w (u8l (List.replicate n 0)) 22
    rw [stC, hl]; exact this
  rw [hW1] at hmk
  clear h hl hp hpl hW1
  have HF : Hid (∀ r, runeC rest l r = cntC (clsC rest l (knR r))) := fun r => rfl
  have HE : Hid (classesL rest l rs = stC (runeC rest l) rs n) := by show _ = _; rw [← unhide HLEN, stC_end]; rfl
  generalize hpv : propsV rest pa pn pc = P at *
  clear hpv
  go_enter Try.func17, Try.ntmps17
  go_wp2
  go_loopw [16] (fun v16 wr => ∃ k : Nat, k ≤ n ∧ v16 = .int .i64 k ∧ Blk wr w.heap.size (u8l (stC (runeC rest l) rs k)) 22 ∧ Below w.heap.size w wr ∧ w.heap.size + 1 ≤ wr.heap.size) (fun v16 _ => n - (intOf v16).toNat)
  case atStart => exact ⟨0, Nat.zero_le _, rfl, hK1, hB1, hs1⟩
  case round =>
    obtain ⟨k, hk, rfl, hK, hB, hsz⟩ := hrel
    by_cases hlt : k < n
    · obtain ⟨b, off, rfl, c1⟩ := (unhide HA).below hB k (by rw [unhide HLEN]; exact hlt)
      obtain ⟨x, hx⟩ : ∃ x, rs.getD k 0 = x := ⟨_, rfl⟩
      rw [hx] at c1
      have hst : stC (runeC rest l) rs (k + 1) = (stC (runeC rest l) rs k).set k (cntC (clsC rest l (knR x))) := by rw [stC, hx]; rfl
      have hol : (stC (runeC rest l) rs k).length = n := by rw [stC_len]; exact unhide HLEN
      have HST := hide hst
      have HC1 := hide (fun d os => Calls.regrown_of (w := wr) (d := d) (os := os) (unhide HCL (grow (redrawn wr d) os) (knR x) (hB.trans ((below_regrown wr d os).mono hB.size))))
      have HK1 := hide (fun d os => Calls.regrown_of (w := wr) (d := d) (os := os) ((known_any x (grow (redrawn wr d) os)).mono fun e w' ⟨h1, h2⟩ => ⟨h1, by subst h2; exact Below.refl _ _⟩))
      have HC2 := hide (fun d os => Calls.regrown_of (w := wr) (d := d) (os := os) ((counted_any (clsC rest l (knR x)) (grow (redrawn wr d) os)).mono fun e w' ⟨h1, h2⟩ => ⟨h1, by subst h2; exact Below.refl _ _⟩))
      have HKK := hide hK
      have HBB := hide hB
      have HSZ := hide hsz
      clear hst hK hB hsz
      generalize hout : stC (runeC rest l) rs k = out at *
      generalize knR x = y at *
      generalize clsC rest l y = z at *
      go_wp2
      refine MixW.start (by kernel_rfl) ?_
      refine MixW.seg (C := fun w' => ∃ p : Regrown, w' = grow (redrawn wr p.d) p.os) 0 10 2 (by kernel_rfl) ⟨⟨wr.drawn + 1, #[]⟩, by rw [grow_empty]; rfl⟩ ?_
      simp only [Nat.reduceAdd, List.take_succ_cons, List.take_zero, List.drop_zero]
      repeat (go_big_quiet_step (first | (go_at_call 43; with_reducible exact (unhide HK1 _ _)) | (go_at_call 39; with_reducible exact (unhide HC1 _ _)) | (go_at_call 42; with_reducible exact (unhide HC2 _ _))))
      refine wpQuiet_nil ?_
      rintro _ ⟨⟨dq, osq⟩, rfl⟩
      have hbq := below_regrown wr dq osq
      have hK5 := (unhide HKK).below hbq
      have hB5 := (unhide HBB).trans (hbq.mono (unhide HBB).size)
      have hz5 := Nat.le_trans (unhide HSZ) hbq.size
      generalize grow (redrawn wr dq) osq = W5 at hK5 hB5 hz5 ⊢
      have c5 := hK5.cell (j := k) (at_u8 (by omega))
      have f5 := hK5.frozen k
      have hK6 := hK5.set k (.int .u8 (cntC z)) (set_u8 out k (cntC z))
      have hB6 := hB5.setCell (p := ⟨w.heap.size, k, none⟩) (Nat.le_refl _) (.int .u8 (cntC z))
      have hz6 : w.heap.size + 1 ≤ (W5.setCell ⟨w.heap.size, k, none⟩ (.int .u8 (cntC z))).heap.size := by simpa [World.setCell] using hz5
      have HK6 := hide hK6
      have HB6 := hide hB6
      clear hbq hK5 hB5 hz5 hK6 hB6
      refine MixW.loud 2 10 0 _ _ (by decide) (by kernel_rfl) ?_
      simp only [Nat.reduceAdd, List.drop_succ_cons, List.drop_zero, List.take_succ_cons, List.take_zero]
      go_wp2_with fail
      refine And.intro (by kernel_rfl) ?_
      go_wp2
      go_roundw
      case rel => exact ⟨k + 1, by omega, by go_num, by rw [unhide HST]; exact unhide HK6, unhide HB6, hz6⟩
      case measure => simp [RowKit.intOf]; omega
    · obtain rfl : k = n := by omega
      go_wp2
      go_ret2
      exact ⟨rfl, by rw [unhide HE]; exact hK, hB⟩
end Go.Proofs.Ytkckkchnmgidgaa
