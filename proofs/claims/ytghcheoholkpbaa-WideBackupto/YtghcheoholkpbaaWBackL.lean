/-
  WideBack: there and back, of every runes, units and bytes: for arguments of at most 1048576 values and letters in all.
-/
import Derived.Test.YtghcheoholkpbaaWLent
import Derived.Test.YtghcheoholkpbaaBulk
import Derived.Deep.Cut
import Derived.Deep.CutRange
import Derived.Deep.DeepCutAuto
import Derived.Deep.RegionHeld3
import Derived.Deep.DrawnRows
import Derived.ProofKit
import Derived.OpenShut
import Derived.ShutString
import Derived.ChangeOld
import Derived.JoinedCond
namespace Go.Proofs.Ytghcheoholkpbaa
open Go.RowKit Go.PlainAid Go.Lib
set_option linter.unusedVariables false
theorem wplaces_mem (us : List Int) (p : Nat) (h : p ∈ wplaces us 0) : p < us.length := by
  obtain ⟨ini, post, e⟩ := List.append_of_mem h
  exact (wplaces_chain us us.length 0 ini post p (by omega) e).1
/-- what Check tells: there is no lone surrogate, or where the first one is -/
theorem chk_cases (us : List Int) (hf : Fits us) : (chkR us = (0, 0) ∧ units (wrunes us) = us) ∨
    (∃ p : Nat, ∃ c : Int, chkR us = ((p : Int), c) ∧ c ≠ 0 ∧ p < us.length ∧ 55296 ≤ uA us p ∧ uA us p ≤ 57343 ∧ units (wrunes us) ≠ us) := by
  rw [wrunes_wl]
  cases h : (wplaces us 0).find? (lone us) with
  | none =>
    left
    have hn : ∀ p ∈ wplaces us 0, lone us p = false := fun p hp => by have := List.find?_eq_none.1 h p hp; simpa using this
    exact ⟨chk_none us hn, (clean_iff us hf).1 ((clean_places us).2 hn)⟩
  | some p =>
    right
    have hm := List.mem_of_find?_eq_some h
    have hl := List.find?_some h
    refine ⟨p, if highB (uA us p) then 20 else 21, by unfold chkR; rw [h], ?_, wplaces_mem us p hm, ?_⟩
    · split <;> decide
    · have hs : surr (uA us p) = true := by unfold lone at hl; simp at hl; exact hl.2
      have hb : 55296 ≤ uA us p ∧ uA us p ≤ 57343 := by unfold surr highB lowB at hs; simp at hs; omega
      refine ⟨hb.1, hb.2, fun e => ?_⟩
      have := (clean_places us).1 ((clean_iff us hf).2 e) p hm
      rw [hl] at this; cases this
theorem runes_fits (us : List Int) (hf : Fits us) : wrunes (units (wrunes us)) = wrunes us := by
  rw [wrunes_wl, wrunes_wl, wl_units]
  have : ∀ r ∈ wl us, fixI r = r := fun r hr => by unfold fixI; rw [if_pos (wl_scalar us hf r hr)]
  rw [List.map_congr_left this]; simp
theorem chk_again (l : List Int) : chkR (units l) = (0, 0) := by
  rcases chk_cases (units l) (units_fits l) with h | ⟨p, c, _, _, _, _, _, h⟩
  · exact h.1
  · exfalso
    apply h
    rw [wrunes_wl]
    exact (clean_iff _ (units_fits l)).1 (clean_units l)
theorem fixN_fixI (z : Int) : ((fixN z : Nat) : Int) = fixI z := by
  unfold fixN fixI
  by_cases h : scalarB z = true
  · rw [if_pos h, if_pos h]
    have : 0 ≤ z := by unfold scalarB at h; simp at h; omega
    omega
  · rw [if_neg h, if_neg h]; rfl
/-- the units of the text of runes -/
theorem text_units (l : List Int) : units (nums (runesBytes l) 0) = units l := by
  have h := (chars_runes l).1
  have e : nums (runesBytes l) 0 = l.map fixI := by
    unfold nums
    have : ((chars (runesBytes l) 0).map fun p => ((p.2 : Nat) : Int)) = ((chars (runesBytes l) 0).map (·.2)).map (fun n => ((n : Nat) : Int)) := by rw [List.map_map]; rfl
    rw [this, h, List.map_map]
    refine List.map_congr_left (fun z _ => fixN_fixI z)
  rw [e, units_fix]
/-- Text of FromText -/
theorem mend_units (s : ByteArray) : runesBytes (wrunes (units (nums s 0))) = mendB s := by
  rw [wrunes_wl, wl_units]
  have : ∀ r ∈ nums s 0, fixI r = r := fun r hr => by
    obtain ⟨p, hp, rfl⟩ := List.mem_map.1 hr
    have := chars_scalar s s.size 0 (by omega) p hp
    unfold fixI; rw [if_pos this]
  exact congrArg runesBytes ((List.map_congr_left this).trans (List.map_id' _))
theorem wtext_row {w : World} {base : Nat} {v : Value} {n : Nat} {us : List Int} (h : w.ownsRow base 22 1 v n (u16s us)) (hf : Fits us) (hl : us.length ≤ 1099511627776) :
    Calls Try.prog 34 #[v] w fun e w' => e = .returned (.string (runesBytes (wrunes us))) ∧ Below w.heap.size w w' := by
  obtain ⟨a, c, rfl⟩ := row_is h
  have hn := row_len h
  subst hn
  have hc := row_caps h
  exact wtext_any us a c w hf hl hc.1 hc.2 (readsU_own h)
theorem wrunes_row {w : World} {base : Nat} {v : Value} {n : Nat} {us : List Int} (h : w.ownsRow base 22 1 v n (u16s us)) (hf : Fits us) (hl : us.length ≤ 1099511627776) :
    Calls Try.prog 30 #[v] w fun e w' => ∃ v, e = .returned v ∧ w'.ownsRow w.heap.size 21 1 v (wrunes us).length (i32l (wrunes us)) ∧ Below w.heap.size w w' := by
  obtain ⟨a, c, rfl⟩ := row_is h
  have hn := row_len h
  subst hn
  have hc := row_caps h
  exact wrunes_any us a c w hf hl hc.1 hc.2 (readsU_own h)
theorem wcheck_row {w : World} {base : Nat} {v : Value} {n : Nat} {us : List Int} (h : w.ownsRow base 22 1 v n (u16s us)) (hf : Fits us) (hl : us.length ≤ 1099511627776) :
    Calls Try.prog 32 #[v] w fun e w' => e = .returned (.tuple #[.int .i64 (chkR us).1, .int .i64 (chkR us).2]) ∧ Below w.heap.size w w' := by
  obtain ⟨a, c, rfl⟩ := row_is h
  have hn := row_len h
  subst hn
  have hc := row_caps h
  exact wcheck_any us a c w hf hl hc.1 hc.2 (readsU_own h)
theorem fromRunes_row {w : World} {base : Nat} {v : Value} {n : Nat} {zs : List Int} (h : w.ownsRow base 21 1 v n (i32l zs)) (hl : zs.length ≤ 1099511627776) :
    Calls Try.prog 21 #[v] w fun e w' => ∃ v, e = .returned v ∧ w'.ownsRow w.heap.size 22 1 v (units zs).length (u16s (units zs)) ∧ Below w.heap.size w w' := by
  obtain ⟨a, c, rfl⟩ := row_is h
  have hn : zs.length = n := by have := h.1; simpa using this
  subst hn
  exact fromRunes_any a c zs w (reads_own h) hl
theorem conv_runes2 (s : ByteArray) (W : World) (hs : s.size ≤ 70368744177664) :
    ∃ cap W', (convert 9 30 (.string s)).run Try.prog W = .ok (.slice (some ⟨W.heap.size, 0, none⟩) (chars s 0).length cap) W' ∧
      W'.ownsRow 0 21 1 (.slice (some ⟨W.heap.size, 0, none⟩) (chars s 0).length cap) (chars s 0).length ((nums s 0).map (Value.int .i32)) ∧ Below W.heap.size W W' := by
  obtain ⟨cap, W', h1, h2, h3⟩ := conv_runes s W hs
  have hv : runeVals s = (nums s 0).map (Value.int .i32) := by unfold runeVals nums; rw [List.map_map]; rfl
  rw [hv] at h2
  exact ⟨cap, W', h1, h2, h3⟩
end Go.Proofs.Ytghcheoholkpbaa
