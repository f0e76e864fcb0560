/-
  What the law's function awake asks: the answer is yes.
-/
import Derived.Test.YtijiiapnbeljnaaGreatDoorBrQ
import Derived.Test.YtijiiapnbeljnaaGreatDoorBrX
import Derived.Test.YtijiiapnbeljnaaGreatDoorBrE
namespace Go.Proofs.YtijiiapnbeljnaaGreatDoor
open Go.RowKit Go.PlainAid Go.Lib Go.Shelf Go.PHexM
set_option linter.unusedVariables false
set_option linter.unusedSimpArgs false

abbrev rnd : List BrD := [⟨40, 41, 1⟩, ⟨41, 40, 2⟩]
abbrev rndT : ByteArray := ⟨#[48, 48, 50, 56, 59, 32, 48, 48, 50, 57, 59, 32, 111, 10]⟩
theorem rnd_new : gathP (placedL rnd) = none := by decide +kernel
theorem rnd_parse : gathP (linedL rndT) = some (1, 82) := by decide +kernel
theorem rnd_text : textW [(40, 41, 1), (41, 40, 2)] = [48, 48, 50, 56, 59, 32, 48, 48, 50, 57, 59, 32, 111, 10, 48, 48, 50, 57, 59, 32, 48, 48, 50, 56, 59, 32, 99, 10] := by decide +kernel
theorem rnd_find (r : Int) : findB rnd r = if r = 41 then some ⟨41, 40, 2⟩ else if r = 40 then some ⟨40, 41, 1⟩ else none := by
  have h : rnd = [] ++ [⟨40, 41, 1⟩] ++ [⟨41, 40, 2⟩] := rfl
  rw [h, findB_snoc, findB_snoc, findB_nil]
  by_cases h1 : r = 41
  · subst h1; simp
  · rw [if_neg (fun e => h1 e.symm), if_neg h1]
    by_cases h2 : r = 40
    · subst h2; simp
    · rw [if_neg (fun e => h2 e.symm), if_neg h2]
theorem rnd_ok : ∀ x ∈ rnd, BrOk x := by
  intro x hx
  simp only [List.mem_cons, List.not_mem_nil, or_false] at hx
  rcases hx with rfl | rfl <;> exact ⟨⟨by decide, by decide⟩, ⟨by decide, by decide⟩, ⟨by decide, by decide⟩⟩
theorem round_any (w : World) : Calls Tryz.prog 27 #[] w fun e w' => e = .returned (.slice (some ⟨w.heap.size, 0, none⟩) 2 2) ∧ w' = w.alloc (.cells #[.int .i32 40, .int .i32 41, .int .u8 1, .int .i32 41, .int .i32 40, .int .u8 2] 26) := by
  go_enter Tryz.func27, Tryz.ntmps27
  go_wp2
  go_ret
  exact ⟨rfl, rfl⟩
theorem rnd_mem {w : World} {g : Nat} (h : w.heap[g]? = some (.cells #[.int .i32 40, .int .i32 41, .int .u8 1, .int .i32 41, .int .i32 40, .int .u8 2] 26 (0, 0))) : BrMem w (some ⟨g, 0, none⟩) rnd := by
  intro i x hx
  refine ⟨g, 0, rfl, fun j v hv => ?_⟩
  match i, hx with
  | 0, hx =>
    cases hx
    match j, hv with
    | 0, hv => cases hv; simp [World.cell?, h]
    | 1, hv => cases hv; simp [World.cell?, h]
    | 2, hv => cases hv; simp [World.cell?, h]
    | j + 3, hv => simp at hv
  | 1, hx =>
    cases hx
    match j, hv with
    | 0, hv => cases hv; simp [World.cell?, h]
    | 1, hv => cases hv; simp [World.cell?, h]
    | 2, hv => cases hv; simp [World.cell?, h]
    | j + 3, hv => simp at hv
  | i + 2, hx => simp at hx
theorem methodError (v : Value) (w : World) : (Go.method 434 91 v "Error").run Tryz.prog w = .ok (248, v) w := by kernel_rfl

set_option maxRecDepth 100000 in
set_option maxHeartbeats 1000000 in
theorem awake8_any (w : World) (hg : ErrT w) (ht : tz16At w) : Calls Tryz.prog 14 #[] w fun e w' => e = .returned (.bool true) ∧ Below w.heap.size w w' := by
  have hme := methodError
  obtain ⟨W1, hW1⟩ : ∃ W1, w.alloc (.cells #[.int .i32 40, .int .i32 41, .int .u8 1, .int .i32 41, .int .i32 40, .int .u8 2] 26) = W1 := ⟨_, rfl⟩
  have hb1 : Below w.heap.size w W1 := by rw [← hW1]; exact below_alloc _ _
  have hh1 : W1.heap[w.heap.size]? = some (.cells #[.int .i32 40, .int .i32 41, .int .u8 1, .int .i32 41, .int .i32 40, .int .u8 2] 26 (0, 0)) := by rw [← hW1]; exact heap_alloc_new w _
  have HR := hide (round_any w)
  rw [hW1] at HR
  have HN := hide ((new8_any rnd (some ⟨w.heap.size, 0, none⟩) 2 2 rfl (by omega) W1 (rnd_mem hh1) (fun k off e => by cases e; exact (Array.getElem?_eq_some_iff.1 hh1).1) rnd_ok (hg.below hb1)).mono (R' := fun e w' => ∃ B, e = .returned (.tuple #[.pointer (some ⟨B, 0, none⟩), .int .i64 0, .int .i64 0]) ∧ Book w' B rnd [] ∧ Below w.heap.size w w') (by
    rintro e w' ⟨hb, (⟨_, B, h1, h2, h3⟩ | ⟨no, why, h, _⟩)⟩
    · exact ⟨B, h1, h2, hb1.trans (hb.mono hb1.size)⟩
    · rw [rnd_new] at h; cases h))
  have HP : Hid (∀ w2, Below w.heap.size w w2 → Calls Tryz.prog 17 #[.string ⟨#[102]⟩, .string rndT] w2 fun e w' => ∃ fb, e = .returned (.tuple #[.pointer none, .iface 91 (.pointer (some ⟨fb, 0, none⟩))]) ∧ w'.heap[fb]? = some (.cells #[.string ⟨#[102]⟩, .int .i64 1, .int .i64 82] 93 (0, 0)) ∧ Below w2.heap.size w2 w') := fun w2 hb2 =>
    (parse8_any ⟨#[102]⟩ rndT (by decide) w2 (hg.below hb2)).mono (by
      rintro e w' ⟨hb, (⟨h, _⟩ | ⟨no, why, fb, h, h1, h2, h3⟩)⟩
      · rw [rnd_parse] at h; cases h
      · rw [rnd_parse] at h; cases h
        exact ⟨fb, h1, h3, hb⟩)
  have HB : Hid (∀ w3 B, Book w3 B rnd [] → Calls Tryz.prog 20 #[.pointer (some ⟨B, 0, none⟩), .int .i32 40] w3 fun e w' => e = .returned (.tuple #[.int .i32 41, .int .u8 1]) ∧ Below w3.heap.size w3 w') := fun w3 B hbk => bracket_book B rnd [] 40 ⟨by decide, by decide⟩ w3 hbk
  have HM : Hid (∀ w3 B, Book w3 B rnd [] → Calls Tryz.prog 23 #[.pointer (some ⟨B, 0, none⟩), .int .i32 40, .int .i32 41] w3 fun e w' => e = .returned (.bool true) ∧ Below w3.heap.size w3 w') := fun w3 B hbk => by
    have := matches_book B rnd [] rnd_ok 40 41 ⟨by decide, by decide⟩ ⟨by decide, by decide⟩ w3 hbk
    rwa [show matP rnd [] 40 41 = true by decide +kernel] at this
  have HWr : Hid (∀ w3 B, Book w3 B rnd [] → tz16At w3 → Calls Tryz.prog 24 #[.pointer (some ⟨B, 0, none⟩)] w3 fun e w' => e = .returned (.string ⟨#[48, 48, 50, 56, 59, 32, 48, 48, 50, 57, 59, 32, 111, 10, 48, 48, 50, 57, 59, 32, 48, 48, 50, 56, 59, 32, 99, 10]⟩) ∧ Below w3.heap.size w3 w') := fun w3 B hbk htz => by
    have := write2_any (40, 41, 1) (41, 40, 2) (by decide) (by decide) (by decide) (by decide) (by decide) rnd [] (by rw [rnd_find]; rfl) (by rw [rnd_find]; rfl) (fun r => by
      rw [rnd_find]
      show _ ↔ r = 40 ∨ r = 41
      split
      · rename_i h; simp [h]
      · rename_i h
        split
        · rename_i h2; simp [h2]
        · rename_i h2; simp [h, h2]) (by decide) B w3 hbk htz
    rw [rnd_text] at this
    exact this
  have HE : Hid (∀ w3 fb, w3.heap[fb]? = some (.cells #[.string ⟨#[102]⟩, .int .i64 1, .int .i64 82] 93 (0, 0)) → Calls Tryz.prog 248 #[.pointer (some ⟨fb, 0, none⟩)] w3 fun e w' => e = .returned (.string ⟨#[102, 58, 49, 58, 32, 101, 114, 114, 111, 114, 32, 56, 50]⟩) ∧ Below w3.heap.size w3 w') := fun w3 fb hfb => by
    have := fault_file ⟨#[102]⟩ (by decide +kernel) (by decide) 1 82 (by decide) (by decide) fb w3 hfb
    rwa [show ((⟨#[102]⟩ : ByteArray) ++ ⟨#[58]⟩ ++ decS 1 ++ ⟨#[58, 32]⟩ ++ errnoS 82) = ⟨#[102, 58, 49, 58, 32, 101, 114, 114, 111, 114, 32, 56, 50]⟩ by decide +kernel] at this
  clear hg hW1 hb1 hh1
  have HT := hide ht
  clear ht
  go_enter Tryz.func14, Tryz.ntmps14
  go_wp2_with (first | (go_at_call 27; with_reducible refine (unhide HR).mono ?_; rintro e w' ⟨rfl, h⟩; cases h) | (go_at_call 10; with_reducible refine (unhide HN).mono ?_; rintro e w2 ⟨B, rfl, hbk, hb2⟩; have HBK := hide hbk; have HB2 := hide hb2; clear hbk hb2) | (go_at_call 17; with_reducible refine (unhide HP _ (unhide HB2)).mono ?_; rintro e w3 ⟨fb, rfl, hfb, hb3⟩; have HBK3 := hide ((unhide HBK).below hb3); have HB3 := hide ((unhide HB2).trans (hb3.mono (unhide HB2).size)); have HFB := hide hfb; clear hfb hb3) | (go_at_call 20; with_reducible refine (unhide HB _ _ (unhide HBK3)).mono ?_; rintro e w4 ⟨rfl, hb4⟩; have HBK4 := hide ((unhide HBK3).below hb4); have HB4 := hide ((unhide HB3).trans (hb4.mono (unhide HB3).size)); have HFB4 := hide ((hb4.block _ (Array.getElem?_eq_some_iff.1 (unhide HFB)).1).trans (unhide HFB)); clear hb4) | (go_at_call 23; with_reducible refine (unhide HM _ _ (unhide HBK4)).mono ?_; rintro e w5 ⟨rfl, hb5⟩; have HBK5 := hide ((unhide HBK4).below hb5); have HB5 := hide ((unhide HB4).trans (hb5.mono (unhide HB4).size)); have HFB5 := hide ((hb5.block _ (Array.getElem?_eq_some_iff.1 (unhide HFB4)).1).trans (unhide HFB4)); clear hb5) | (go_at_call 24; with_reducible refine (unhide HWr _ _ (unhide HBK5) (tz16_below (unhide HT) (unhide HB5))).mono ?_; rintro e w6 ⟨rfl, hb6⟩; have HB6 := hide ((unhide HB5).trans (hb6.mono (unhide HB5).size)); have HFB6 := hide ((hb6.block _ (Array.getElem?_eq_some_iff.1 (unhide HFB5)).1).trans (unhide HFB5)); clear hb6) | (go_at_call 248; with_reducible refine (unhide HE _ _ (unhide HFB6)).mono ?_; rintro e w7 ⟨rfl, hb7⟩; have HB7 := hide ((unhide HB6).trans (hb7.mono (unhide HB6).size)); clear hb7))
  go_ret
  exact ⟨rfl, unhide HB7⟩
end Go.Proofs.YtijiiapnbeljnaaGreatDoor
