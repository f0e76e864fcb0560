/-
  The document's Same (furrowref03), for every two lines.
-/
import Derived.Test.YtlaennakglhmjaaGreatDoorLPrint
namespace Go.Proofs.YtlaennakglhmjaaGreatDoor
open Go.RowKit Go.PlainAid Go.Lib Go.Shelf
set_option linter.unusedVariables false

set_option maxRecDepth 100000 in
set_option maxHeartbeats 4000000 in
theorem refSame_any (d d' : LineD) (a b : Option Addr) (n m ca cb : Nat) (w : World) (hn : d.fields.length = n) (hm : d'.fields.length = m) (hnb : n ≤ 1099511627776) (hmb : m ≤ 1099511627776) (ha : TxO w a d.fields) (hb : TxO w b d'.fields) :
    Calls Tryz.prog 15 #[lineV d (.slice a n ca), lineV d' (.slice b m cb)] w fun e w' => ∃ t, e = .returned (.bool t) ∧ (t = true ↔ d = d') ∧ Below w.heap.size w w' := by
  obtain ⟨no, kind, name, fields, note⟩ := d
  obtain ⟨no', kind', name', fields', note'⟩ := d'
  simp only [lineV] at *
  have hEQ : ((⟨no, kind, name, fields, note⟩ : LineD) = ⟨no', kind', name', fields', note'⟩) ↔ (no = no' ∧ kind = kind' ∧ name = name' ∧ fields = fields' ∧ note = note') := by
    constructor
    · intro h; injection h with h1 h2 h3 h4 h5; exact ⟨h1, h2, h3, h4, h5⟩
    · rintro ⟨rfl, rfl, rfl, rfl, rfl⟩; rfl
  have HEQ := hide hEQ
  obtain ⟨W, hW⟩ : ∃ W, (w.alloc (.cells #[.int .i64 no, .int .u8 kind, .string (S name), .slice a n ca, .string (S note)] 41)).alloc (.cells #[.int .i64 no', .int .u8 kind', .string (S name'), .slice b m cb, .string (S note')] 41) = W := ⟨_, rfl⟩
  have hB : Below w.heap.size w W := by rw [← hW]; exact ((Below.refl _ w).alloc (Nat.le_refl _) _).alloc (by simp) _
  have g1 : W.heap[w.heap.size]? = some (.cells #[.int .i64 no, .int .u8 kind, .string (S name), .slice a n ca, .string (S note)] 41) := by
    rw [← hW, Below.heap_alloc _ _ _ (by simp)]; exact heap_alloc_new _ _
  have g2 : W.heap[w.heap.size + 1]? = some (.cells #[.int .i64 no', .int .u8 kind', .string (S name'), .slice b m cb, .string (S note')] 41) := by
    have := heap_alloc_new (w.alloc (.cells #[.int .i64 no, .int .u8 kind, .string (S name), .slice a n ca, .string (S note)] 41)) (.cells #[.int .i64 no', .int .u8 kind', .string (S name'), .slice b m cb, .string (S note')] 41)
    rw [hW] at this; simpa using this
  obtain ⟨c0, c1, c2, c3, c4, -, -, -, -, -⟩ := box5 g1
  obtain ⟨e0, e1, e2, e3, e4, -, -, -, -, -⟩ := box5 g2
  have HA := hide (ha.below hB)
  have HB := hide (hb.below hB)
  clear ha hb g1 g2 hEQ
  have neg : ∀ P : Prop, ¬ P → ((false = true) ↔ P) := fun P h => Iff.intro (fun k => Bool.noConfusion k) (fun k => absurd k h)
  by_cases k0 : no = no'
  rotate_left
  · have d0 : (no != no') = true := by simpa using k0
    have hne := hide (neg _ (fun h => k0 ((unhide HEQ).1 h).1))
    go_enter Tryz.func15, Tryz.ntmps15
    go_wp2_with fail
    go_ret
    first | exact ⟨_, rfl, unhide hne, hB⟩ | exact ⟨rfl, hB⟩ | exact hB
  by_cases k1 : kind = kind'
  rotate_left
  · have d0 : (kind != kind') = true := by simpa using k1
    have hne := hide (neg _ (fun h => k1 ((unhide HEQ).1 h).2.1))
    subst k0
    go_enter Tryz.func15, Tryz.ntmps15
    go_wp2_with fail
    go_ret
    first | exact ⟨_, rfl, unhide hne, hB⟩ | exact ⟨rfl, hB⟩ | exact hB
  by_cases k2 : name = name'
  rotate_left
  · have d0 : (name != name') = true := by simpa using k2
    have hne := hide (neg _ (fun h => k2 ((unhide HEQ).1 h).2.2.1))
    subst k0 k1
    go_enter Tryz.func15, Tryz.ntmps15
    go_wp2_with fail
    go_ret
    first | exact ⟨_, rfl, unhide hne, hB⟩ | exact ⟨rfl, hB⟩ | exact hB
  by_cases k4 : note = note'
  rotate_left
  · have d0 : (note != note') = true := by simpa using k4
    have hne := hide (neg _ (fun h => k4 ((unhide HEQ).1 h).2.2.2.2))
    subst k0 k1 k2
    go_enter Tryz.func15, Tryz.ntmps15
    go_wp2_with fail
    go_ret
    first | exact ⟨_, rfl, unhide hne, hB⟩ | exact ⟨rfl, hB⟩ | exact hB
  by_cases k3 : n = m
  rotate_left
  · have d0 : ((n : Int) != (m : Int)) = true := by simp; omega
    have hne := hide (neg _ (fun h => k3 (by have := ((unhide HEQ).1 h).2.2.2.1; rw [← hn, ← hm, this])))
    have hnf : Hid (¬ fields = fields') := fun h => k3 (by rw [← hn, ← hm, h])
    subst k0 k1 k2 k4
    go_enter Tryz.func15, Tryz.ntmps15
    go_wp2_with fail
    go_ret
    first | exact ⟨_, rfl, unhide hne, hB⟩ | exact ⟨rfl, hB⟩ | exact .inl ⟨rfl, hnf.out, hB⟩ | exact hB
  subst k0 k1 k2 k3 k4
  have HNE : Hid (fields ≠ fields' → ((false = true) ↔ ((⟨no, kind, name, fields, note⟩ : LineD) = ⟨no, kind, name, fields', note⟩))) := fun h => neg _ (fun k => h ((unhide HEQ).1 k).2.2.2.1)
  have HYE : Hid (fields = fields' → ((true = true) ↔ ((⟨no, kind, name, fields, note⟩ : LineD) = ⟨no, kind, name, fields', note⟩))) := fun h => by rw [h]; simp
  have HN := hide hn
  have HM := hide hm
  have HW := hide hW
  clear hn hm HEQ neg hW
  go_enter Tryz.func15, Tryz.ntmps15
  go_wp2
  rw [unhide HW]
  go_loopw [5] (fun v5 wr => ∃ i q : Nat, i ≤ n ∧ v5 = .int .i64 (i : Nat) ∧ wr = W.drewN q ∧ Hid (fields.take i = fields'.take i)) (fun v5 _ => n - (RowKit.intOf v5).toNat)
  case atStart => exact ⟨0, 0, Nat.zero_le _, rfl, rfl, by show _ = _; simp⟩
  case round =>
    obtain ⟨i, q, hi, rfl, rfl, HT⟩ := hrel
    obtain ⟨WX, hWX⟩ : ∃ WX, W.drewN q = WX := ⟨_, rfl⟩
    have k3 : WX.cell? ⟨w.heap.size, 3, none⟩ = some (.slice a n ca) := by rw [← hWX]; exact c3
    have m3 : WX.cell? ⟨w.heap.size + 1, 3, none⟩ = some (.slice b n cb) := by rw [← hWX]; exact e3
    have hBX : Below w.heap.size w WX := by rw [← hWX]; exact below_drewN hB q
    by_cases hlt : i < n
    · obtain ⟨x, hx⟩ : ∃ x, fields[i]? = some x := ⟨_, List.getElem?_eq_getElem (by rw [unhide HN]; exact hlt)⟩
      obtain ⟨y, hy⟩ : ∃ y, fields'[i]? = some y := ⟨_, List.getElem?_eq_getElem (by rw [unhide HM]; exact hlt)⟩
      obtain ⟨g, o, rfl, _, p0⟩ := unhide HA i x hx
      obtain ⟨g', o', rfl, _, p2⟩ := unhide HB i y hy
      have q0 : WX.cell? ⟨g, o + i, none⟩ = some (.string (S x)) := by rw [← hWX]; exact p0
      have q2 : WX.cell? ⟨g', o' + i, none⟩ = some (.string (S y)) := by rw [← hWX]; exact p2
      rw [hWX]
      have HWX := hide hWX
      have HNX : Hid (x = y → fields.take (i + 1) = fields'.take (i + 1)) := fun h => by rw [List.take_add_one, List.take_add_one, hx, hy, h, HT.out]
      have HNO : Hid (x ≠ y → fields ≠ fields') := fun h k => h (by rw [k, hy] at hx; exact (Option.some.inj hx).symm)
      clear hWX p0 p2 hx hy c0 c1 c2 c3 c4 e0 e1 e2 e3 e4 HT
      by_cases hxy : x = y
      · subst hxy
        go_wp2
        go_quiet (fail)
        go_wp2
        go_roundw
        case rel => exact ⟨i + 1, q + nq, by omega, by go_num, by rw [← unhide HWX]; exact World.drewN_drewN _ _ _, by first | exact HNX.out rfl | exact HNX.out trivial | exact HNX.out⟩
        case measure => simp [RowKit.intOf]; omega
      · have d1 : (x == y) = false := by simpa using hxy
        have d2 : (x != y) = true := by simpa using hxy
        have hne := hide (HNE.out (HNO.out hxy))
        clear HNE HNO HNX HYE
        go_wp2
        go_quiet (fail)
        go_wp2
        go_ret
        first | exact ⟨_, rfl, unhide hne, below_drewN hBX nq⟩ | exact ⟨rfl, below_drewN hBX nq⟩
    · rw [hWX]
      have HWX := hide hWX
      clear hWX
      obtain rfl : i = n := by omega
      have hff : Hid (fields = fields') := by
        have h := HT.out
        rwa [List.take_of_length_le (by rw [unhide HN]; exact Nat.le_refl _), List.take_of_length_le (by rw [unhide HM]; exact Nat.le_refl _)] at h
      have hye := hide (HYE.out hff.out)
      clear HYE HNE HT
      go_wp2
      go_ret
      first | exact ⟨_, rfl, unhide hye, hBX⟩ | exact ⟨_, rfl, by simpa using hff.out, hBX⟩
end Go.Proofs.YtlaennakglhmjaaGreatDoor
