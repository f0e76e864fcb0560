/-
  The small functions of paras and of the document: what begins an isolate, what is strong, what counts as which class; lists of classes and of runes that are the same, copied, kept.
-/
import Derived.Test.YtkckkchnmgidgaaPaRow
namespace Go.Proofs.Ytkckkchnmgidgaa
open Go.RowKit Go.PlainAid Go.Lib
set_option linter.unusedVariables false
set_option maxRecDepth 100000
set_option maxHeartbeats 1000000

theorem strong_any (c : Int) (w : World) : Calls Try.prog 60 #[.int .u8 c] w fun e w' => e = .returned (.bool (strongC c)) ∧ w' = w := by
  have hb : strongC c = (c == 1 || c == 2 || c == 3) := rfl
  by_cases h1 : c = 1
  · subst h1
    go_enter Try.func60, Try.ntmps60
    go_wp2
    go_ret
    exact ⟨rfl, rfl⟩
  · by_cases h2 : c = 2
    · subst h2
      go_enter Try.func60, Try.ntmps60
      go_wp2
      go_ret
      exact ⟨rfl, rfl⟩
    · have q1 : (c == 1) = false := by simpa using h1
      have q2 : (c == 2) = false := by simpa using h2
      rw [q1, q2] at hb
      rw [hb]
      clear h1 h2 hb
      generalize hq3 : (c == 3) = q3
      go_enter Try.func60, Try.ntmps60
      go_wp2
      go_ret
      exact ⟨by simp, rfl⟩
theorem rBegins_any (c : Int) (w : World) : Calls Try.prog 35 #[.int .u8 c] w fun e w' => e = .returned (.bool (begC c)) ∧ w' = w := by
  have hb : begC c = (c == 20 || c == 21 || c == 22) := rfl
  by_cases h1 : c = 20
  · subst h1
    go_enter Try.func35, Try.ntmps35
    go_wp2
    go_ret
    exact ⟨rfl, rfl⟩
  · by_cases h2 : c = 21
    · subst h2
      go_enter Try.func35, Try.ntmps35
      go_wp2
      go_ret
      exact ⟨rfl, rfl⟩
    · have q1 : (c == 20) = false := by simpa using h1
      have q2 : (c == 21) = false := by simpa using h2
      rw [q1, q2] at hb
      rw [hb]
      clear h1 h2 hb
      generalize hq3 : (c == 22) = q3
      go_enter Try.func35, Try.ntmps35
      go_wp2
      go_ret
      exact ⟨by simp, rfl⟩

/-- what a class counts as; the rune that props are asked -/
def cntC (c : Int) : Int := if c < 1 ∨ 23 < c then 14 else c
def knR (r : Int) : Int := if r < 0 ∨ 1114111 < r then 65533 else r
theorem counted_any (c : Int) (w : World) : Calls Try.prog 42 #[.int .u8 c] w fun e w' => e = .returned (.int .u8 (cntC c)) ∧ w' = w := by
  by_cases h1 : c < 1
  · have e : cntC c = 14 := by unfold cntC; rw [if_pos (.inl h1)]
    rw [e]
    go_enter Try.func42, Try.ntmps42
    go_wp2
    go_ret
    exact ⟨rfl, rfl⟩
  · by_cases h2 : 23 < c
    · have e : cntC c = 14 := by unfold cntC; rw [if_pos (.inr h2)]
      rw [e]
      go_enter Try.func42, Try.ntmps42
      go_wp2
      go_ret
      exact ⟨rfl, rfl⟩
    · have e : cntC c = c := by unfold cntC; rw [if_neg (by omega)]
      rw [e]
      go_enter Try.func42, Try.ntmps42
      go_wp2
      go_ret
      exact ⟨rfl, rfl⟩
theorem rClass_any (c : Int) (w : World) : Calls Try.prog 38 #[.int .u8 c] w fun e w' => e = .returned (.int .u8 (cntC c)) ∧ w' = w := by
  by_cases h1 : c < 1
  · have e : cntC c = 14 := by unfold cntC; rw [if_pos (.inl h1)]
    rw [e]
    go_enter Try.func38, Try.ntmps38
    go_wp2
    go_ret
    exact ⟨rfl, rfl⟩
  · by_cases h2 : 23 < c
    · have e : cntC c = 14 := by unfold cntC; rw [if_pos (.inr h2)]
      rw [e]
      go_enter Try.func38, Try.ntmps38
      go_wp2
      go_ret
      exact ⟨rfl, rfl⟩
    · have e : cntC c = c := by unfold cntC; rw [if_neg (by omega)]
      rw [e]
      go_enter Try.func38, Try.ntmps38
      go_wp2
      go_ret
      exact ⟨rfl, rfl⟩
theorem known_any (r : Int) (w : World) : Calls Try.prog 43 #[.int .i32 r] w fun e w' => e = .returned (.int .i32 (knR r)) ∧ w' = w := by
  by_cases h1 : r < 0
  · have e : knR r = 65533 := by unfold knR; rw [if_pos (.inl h1)]
    rw [e]
    go_enter Try.func43, Try.ntmps43
    go_wp2
    go_ret
    exact ⟨rfl, rfl⟩
  · by_cases h2 : 1114111 < r
    · have e : knR r = 65533 := by unfold knR; rw [if_pos (.inr h2)]
      rw [e]
      go_enter Try.func43, Try.ntmps43
      go_wp2
      go_ret
      exact ⟨rfl, rfl⟩
    · have e : knR r = r := by unfold knR; rw [if_neg (by omega)]
      rw [e]
      go_enter Try.func43, Try.ntmps43
      go_wp2
      go_ret
      exact ⟨rfl, rfl⟩
theorem rRune_any (r : Int) (w : World) : Calls Try.prog 44 #[.int .i32 r] w fun e w' => e = .returned (.int .i32 (knR r)) ∧ w' = w := by
  by_cases h1 : r < 0
  · have e : knR r = 65533 := by unfold knR; rw [if_pos (.inl h1)]
    rw [e]
    go_enter Try.func44, Try.ntmps44
    go_wp2
    go_ret
    exact ⟨rfl, rfl⟩
  · by_cases h2 : 1114111 < r
    · have e : knR r = 65533 := by unfold knR; rw [if_pos (.inr h2)]
      rw [e]
      go_enter Try.func44, Try.ntmps44
      go_wp2
      go_ret
      exact ⟨rfl, rfl⟩
    · have e : knR r = r := by unfold knR; rw [if_neg (by omega)]
      rw [e]
      go_enter Try.func44, Try.ntmps44
      go_wp2
      go_ret
      exact ⟨rfl, rfl⟩

/-! lists -/
theorem below_box {w w' : World} {o : Obj} (hb : Below (w.alloc o).heap.size (w.alloc o) w') : Below w.heap.size w w' := ((Below.refl _ _).alloc (Nat.le_refl _) _).trans (hb.mono (by simp))
theorem same_yes (a b : Option Addr) (ca cb n : Nat) (us : List Int) (w : World) (hl : us.length = n) (ha : ReadsB w a us) (hb : ReadsB w b us) (hn : n ≤ 1099511627776) :
    Calls Try.prog 19 #[.slice a n ca, .slice b n cb] w fun e w' => e = .returned (.bool true) ∧ Below w.heap.size w w' := by
  have HA := hide ha
  have HB := hide hb
  have HLEN := hide hl
  clear ha hb hl
  go_enter Try.func19, Try.ntmps19
  go_wp2
  go_loopw [5] (fun v5 wr => ∃ k m : Nat, k ≤ n ∧ v5 = .int .i64 k ∧ wr = w.drewN m) (fun v5 _ => n - (intOf v5).toNat)
  case atStart => exact ⟨0, 0, Nat.zero_le _, rfl, rfl⟩
  case round =>
    obtain ⟨k, m, hk, rfl, rfl⟩ := hrel
    by_cases hlt : k < n
    · obtain ⟨b1, o1, rfl, c1⟩ := unhide HA k (by rw [unhide HLEN]; exact hlt)
      obtain ⟨b2, o2, rfl, c2⟩ := unhide HB k (by rw [unhide HLEN]; exact hlt)
      generalize cA us k = r at *
      have hq : ((r : Int) != r) = false := by simp
      go_wp2
      go_quiet (fail)
      go_wp2
      go_roundw
      case rel => exact ⟨k + 1, _, by omega, by go_num, rfl⟩
      case measure => simp [intOf]; omega
    · go_wp2
      go_ret
      exact ⟨rfl, below_drewN (Below.refl _ _) m⟩
theorem sameRunes_yes (a b : Option Addr) (ca cb n : Nat) (us : List Int) (w : World) (hl : us.length = n) (ha : Reads w a us) (hb : Reads w b us) (hn : n ≤ 1099511627776) :
    Calls Try.prog 22 #[.slice a n ca, .slice b n cb] w fun e w' => e = .returned (.bool true) ∧ Below w.heap.size w w' := by
  have HA := hide ha
  have HB := hide hb
  have HLEN := hide hl
  clear ha hb hl
  go_enter Try.func22, Try.ntmps22
  go_wp2
  go_loopw [5] (fun v5 wr => ∃ k m : Nat, k ≤ n ∧ v5 = .int .i64 k ∧ wr = w.drewN m) (fun v5 _ => n - (intOf v5).toNat)
  case atStart => exact ⟨0, 0, Nat.zero_le _, rfl, rfl⟩
  case round =>
    obtain ⟨k, m, hk, rfl, rfl⟩ := hrel
    by_cases hlt : k < n
    · obtain ⟨b1, o1, rfl, c1⟩ := unhide HA k (by rw [unhide HLEN]; exact hlt)
      obtain ⟨b2, o2, rfl, c2⟩ := unhide HB k (by rw [unhide HLEN]; exact hlt)
      generalize us.getD k 0 = r at *
      have hq : ((r : Int) != r) = false := by simp
      go_wp2
      go_quiet (fail)
      go_wp2
      go_roundw
      case rel => exact ⟨k + 1, _, by omega, by go_num, rfl⟩
      case measure => simp [intOf]; omega
    · go_wp2
      go_ret
      exact ⟨rfl, below_drewN (Below.refl _ _) m⟩

/-- classes that are lent: a mark behind them -/
def Lent (w : World) (B g cap : Nat) (us : List Int) : Prop := w.ownsRow B 22 1 (.slice (some ⟨g, 0, none⟩) (us.length + 1) cap) (us.length + 1) (u8l (us ++ [77]))
theorem Lent.reads {w : World} {B g cap : Nat} {us : List Int} (h : Lent w B g cap us) : ReadsB w (some ⟨g, 0, none⟩) us := (readsB_own (n := us.length + 1) h).front
theorem Lent.caps {w : World} {B g cap : Nat} {us : List Int} (h : Lent w B g cap us) : us.length + 1 ≤ cap ∧ cap ≤ maxLen := row_caps h
theorem Lent.below {w w' : World} {B g cap : Nat} {us : List Int} (h : Lent w B g cap us) (hb : Below w.heap.size w w') : Lent w' B g cap us := rowBelow h hb
theorem Lent.base {w : World} {B g cap : Nat} {us : List Int} (h : Lent w B g cap us) : B ≤ g ∧ g < w.heap.size := by
  rcases h.2 with ⟨h0, _⟩ | ⟨g', cap', cur, hv, hb, hg, _⟩
  · cases h0
  · obtain ⟨rfl, rfl⟩ : g = g' ∧ cap = cap' := by simpa using hv
    exact ⟨hb, (Array.getElem?_eq_some_iff.1 hg).1⟩
theorem Lent.mark {w : World} {B g cap : Nat} {us : List Int} (h : Lent w B g cap us) : w.cell? ⟨g, us.length, none⟩ = some (.int .u8 77) := by
  have h' : w.ownsRow B 22 1 (.slice (some ⟨g, 0, none⟩) (us.length + 1) cap) (us.length + 1) (u8l (us ++ [77])) := h
  refine (h'.cellAt us.length (by omega)).trans ?_
  simp
theorem cells_new (w : World) (l : List Value) (t : TypeId) : ∀ j u, l[j]? = some u → (w.alloc (.cells l.toArray t)).cell? ((⟨w.heap.size, 0, none⟩ : Addr).add j) = some u := by
  intro j u hu
  have h := World.alloc_heap_new w (.cells l.toArray t)
  rw [addr_add]
  simp only [World.cell?, h]
  simpa using hu
theorem cells_newH (w : World) (l : List Value) (t : TypeId) (B : Nat) (hB : w.heap.size = B) : ∀ j u, l[j]? = some u → (w.alloc (.cells l.toArray t)).cell? ((⟨B, 0, none⟩ : Addr).add j) = some u := by
  subst hB; exact cells_new w l t
theorem lent_any (w : World) (a : Option Addr) (n c : Nat) (us : List Int) (hl : us.length = n) (h : ReadsB w a us) (hn : n ≤ 1099511627776) :
    Calls Try.prog 23 #[.slice a n c] w fun e w' => ∃ g cap, e = .returned (.slice (some ⟨g, 0, none⟩) n cap) ∧ n + 1 ≤ cap ∧ cap ≤ 9223372036854775807 ∧ Lent w' w.heap.size g cap us ∧ Below w.heap.size w w' := by
  obtain ⟨i0, hi, hz0, hz1, hz2⟩ := info_parts infoClass
  obtain ⟨v1, w1, hap, hown1, hgrow1, _⟩ := appB w w.heap.size (.slice none 0 0) 0 [] us a c (World.ownsRow_nil _ _ _ _) h (by omega) (Nat.le_refl _)
  have hB1 : Below w.heap.size w w1 := (Below.refl _ _).grown hgrow1 (Nat.le_refl _) (fun k e => by simp [Value.ownBlock] at e)
  rw [Nat.zero_add, List.nil_append] at hown1
  obtain ⟨a1, c1, rfl⟩ := row_is hown1
  have HL : Hid (∀ g cap w', w'.ownsRow w.heap.size 22 1 (.slice (some ⟨g, 0, none⟩) (us.length + 1) cap) (us.length + 1) (u8l us ++ [.int .u8 77]) → Lent w' w.heap.size g cap us) := fun g cap w' h => by unfold Lent; rw [u8l, List.map_append]; exact h
  have hle := hB1.size
  rw [hl] at hown1 hap
  rw [hl] at HL
  clear hgrow1 h
  have HAP := hide hap
  clear hap hl
  go_enter Try.func23, Try.ntmps23
  go_wp2_with (first
    | (at_builtin; refine wpList_append_run w rfl _ _ 29 rfl _ _ rfl rfl _ _ (unhide HAP) ?_)
    | (at_builtin; refine wpList_append_own_at _ rfl _ _ 29 rfl w.heap.size 22 i0 (.int .u8 0) 1 1 Try.underlying29 hi hz0 hz1 hz2 rfl (by decide) _ _ _ rfl (hown1.alloc _) ⟨w1.heap.size, 0, none⟩ 1 1 [.int .u8 77] rfl rfl (cells_new _ _ _) (by simp [Value.oneCell']) (by unfold maxLen; omega) (by omega) (by simp; omega) ?_; intro v2 w2 hown2 hgrow2 _ _; obtain ⟨g2, cap2, rfl⟩ := ownsRow_succ hown2; have hcp := row_caps hown2; obtain ⟨hcp, hcm⟩ := hcp))
  go_ret
  unfold maxLen at hcm
  exact ⟨g2, cap2, rfl, hcp, by omega, unhide HL _ _ _ hown2, belowGrown (hB1.alloc hle _) (by simp; omega) (hown1.alloc _) hgrow2⟩
theorem kept_any (w : World) (B g cap : Nat) (a : Option Addr) (n c : Nat) (us : List Int) (hlen : us.length = n) (hl : Lent w B g cap us) (h : ReadsB w a us) (hn : n ≤ 1099511627776) :
    Calls Try.prog 27 #[.slice (some ⟨g, 0, none⟩) n cap, .slice a n c] w fun e w' => e = .returned (.bool true) ∧ Below w.heap.size w w' := by
  have HS := hide (same_yes (some ⟨g, 0, none⟩) a cap c n us w hlen hl.reads h hn)
  obtain ⟨hc1, hc2⟩ := hl.caps
  unfold maxLen at hc2
  have HM := hide (fun w' (hb : Below w.heap.size w w') => (hl.below hb).mark)
  rw [hlen] at HM hc1
  clear hl h hlen
  go_enter Try.func27, Try.ntmps27
  go_wp2_with fail
  refine (unhide HS).mono ?_
  rintro e w1 ⟨rfl, hb1⟩
  have m1 := unhide HM w1 hb1
  go_wp2
  go_ret
  exact ⟨rfl, hb1⟩

/-- runes that are lent -/
def LentI (w : World) (B g cap : Nat) (us : List Int) : Prop := w.ownsRow B 21 1 (.slice (some ⟨g, 0, none⟩) (us.length + 1) cap) (us.length + 1) (i32l (us ++ [-77]))
theorem LentI.reads {w : World} {B g cap : Nat} {us : List Int} (h : LentI w B g cap us) : Reads w (some ⟨g, 0, none⟩) us := (reads_own (n := us.length + 1) h).front
theorem LentI.caps {w : World} {B g cap : Nat} {us : List Int} (h : LentI w B g cap us) : us.length + 1 ≤ cap ∧ cap ≤ maxLen := row_caps h
theorem LentI.below {w w' : World} {B g cap : Nat} {us : List Int} (h : LentI w B g cap us) (hb : Below w.heap.size w w') : LentI w' B g cap us := rowBelow h hb
theorem LentI.mark {w : World} {B g cap : Nat} {us : List Int} (h : LentI w B g cap us) : w.cell? ⟨g, us.length, none⟩ = some (.int .i32 (-77)) := by
  have h' : w.ownsRow B 21 1 (.slice (some ⟨g, 0, none⟩) (us.length + 1) cap) (us.length + 1) (i32l (us ++ [-77])) := h
  refine (h'.cellAt us.length (by omega)).trans ?_
  simp
theorem lentRunes_any (w : World) (a : Option Addr) (n c : Nat) (us : List Int) (hl : us.length = n) (h : Reads w a us) (hn : n ≤ 1099511627776) :
    Calls Try.prog 16 #[.slice a n c] w fun e w' => ∃ g cap, e = .returned (.slice (some ⟨g, 0, none⟩) n cap) ∧ n + 1 ≤ cap ∧ cap ≤ 9223372036854775807 ∧ LentI w' w.heap.size g cap us ∧ Below w.heap.size w w' := by
  obtain ⟨i0, hi, hz0, hz1, hz2⟩ := info_parts infoRune
  obtain ⟨v1, w1, hap, hown1, hgrow1, _⟩ := appI w w.heap.size (.slice none 0 0) 0 [] us a c (World.ownsRow_nil _ _ _ _) h (by omega) (Nat.le_refl _)
  have hB1 : Below w.heap.size w w1 := (Below.refl _ _).grown hgrow1 (Nat.le_refl _) (fun k e => by simp [Value.ownBlock] at e)
  rw [Nat.zero_add, List.nil_append] at hown1
  obtain ⟨a1, c1, rfl⟩ := row_is hown1
  have HL : Hid (∀ g cap w', w'.ownsRow w.heap.size 21 1 (.slice (some ⟨g, 0, none⟩) (us.length + 1) cap) (us.length + 1) (i32l us ++ [.int .i32 (-77)]) → LentI w' w.heap.size g cap us) := fun g cap w' h => by unfold LentI; rw [i32l, List.map_append]; exact h
  have hle := hB1.size
  rw [hl] at hown1 hap
  rw [hl] at HL
  clear hgrow1 h
  have HAP := hide hap
  clear hap hl
  go_enter Try.func16, Try.ntmps16
  go_wp2_with (first
    | (at_builtin; refine wpList_append_run w rfl _ _ 26 rfl _ _ rfl rfl _ _ (unhide HAP) ?_)
    | (at_builtin; refine wpList_append_own_at _ rfl _ _ 26 rfl w.heap.size 21 i0 (.int .i32 0) 1 4 Try.underlying26 hi hz0 hz1 hz2 rfl (by decide) _ _ _ rfl (hown1.alloc _) ⟨w1.heap.size, 0, none⟩ 1 1 [.int .i32 (-77)] rfl rfl (cells_new _ _ _) (by simp [Value.oneCell']) (by unfold maxLen; omega) (by omega) (by simp; omega) ?_; intro v2 w2 hown2 hgrow2 _ _; obtain ⟨g2, cap2, rfl⟩ := ownsRow_succ hown2; have hcp := row_caps hown2; obtain ⟨hcp, hcm⟩ := hcp))
  go_ret
  unfold maxLen at hcm
  exact ⟨g2, cap2, rfl, hcp, by omega, unhide HL _ _ _ hown2, belowGrown (hB1.alloc hle _) (by simp; omega) (hown1.alloc _) hgrow2⟩
theorem keptRunes_any (w : World) (B g cap : Nat) (a : Option Addr) (n c : Nat) (us : List Int) (hlen : us.length = n) (hl : LentI w B g cap us) (h : Reads w a us) (hn : n ≤ 1099511627776) :
    Calls Try.prog 20 #[.slice (some ⟨g, 0, none⟩) n cap, .slice a n c] w fun e w' => e = .returned (.bool true) ∧ Below w.heap.size w w' := by
  have HS := hide (sameRunes_yes (some ⟨g, 0, none⟩) a cap c n us w hlen hl.reads h hn)
  obtain ⟨hc1, hc2⟩ := hl.caps
  unfold maxLen at hc2
  have HM := hide (fun w' (hb : Below w.heap.size w w') => (hl.below hb).mark)
  rw [hlen] at HM hc1
  clear hl h hlen
  go_enter Try.func20, Try.ntmps20
  go_wp2_with fail
  refine (unhide HS).mono ?_
  rintro e w1 ⟨rfl, hb1⟩
  have m1 := unhide HM w1 hb1
  go_wp2
  go_ret
  exact ⟨rfl, hb1⟩
end Go.Proofs.Ytkckkchnmgidgaa
