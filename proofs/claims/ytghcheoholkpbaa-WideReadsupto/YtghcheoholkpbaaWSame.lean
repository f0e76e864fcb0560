/-
  The lists' comparisons of the laws: same of furrowlaw02, Same of furrowref02; and, plain, what is laid is read.
-/
import Derived.Test.YtghcheoholkpbaaWRead2
import Derived.Test.YtghcheoholkpbaaWCheck
namespace Go.Proofs.Ytghcheoholkpbaa
open Go.RowKit Go.PlainAid Go.Lib
set_option linter.unusedVariables false

theorem uA_ext {us vs : List Int} (hl : us.length = vs.length) (h : ∀ k, k < us.length → uA us k = uA vs k) : us = vs := by
  apply List.ext_getElem hl
  intro k h1 h2
  have := h k h1
  unfold uA at this
  simpa [List.getD_eq_getElem?_getD, List.getElem?_eq_getElem h1, List.getElem?_eq_getElem h2] using this

set_option maxRecDepth 100000 in
set_option maxHeartbeats 1000000 in
theorem sameU_any (a b : Option Addr) (ca cb : Nat) (us vs : List Int) (w : World) (ha : ReadsU w a us) (hb : ReadsU w b vs) (hn : us.length ≤ 1099511627776) :
    Calls Try.prog 49 #[.slice a us.length ca, .slice b vs.length cb] w fun e w' => e = .returned (.bool (decide (us = vs))) ∧ Below w.heap.size w w' := by
  by_cases hl : us.length = vs.length
  · have HA := hide ha
    have HB := hide hb
    have HEX := hide (uA_ext hl)
    clear ha hb
    rw [← hl]
    generalize hlen : us.length = n at *
    have HLEN := hide hlen
    have HLEN2 := hide hl
    clear hlen hl
    go_enter Try.func49, Try.ntmps49
    go_wp2
    go_loopw [5] (fun v5 wr => ∃ k m : Nat, k ≤ n ∧ v5 = .int .i64 k ∧ wr = w.drewN m ∧ Hid (∀ j, j < k → uA us j = uA vs j)) (fun v5 _ => n - (intOf v5).toNat)
    case atStart => exact ⟨0, 0, Nat.zero_le _, rfl, rfl, hide (fun j hj => by omega)⟩
    case round =>
      obtain ⟨k, m, hk, rfl, rfl, HJ⟩ := hrel
      by_cases hlt : k < n
      · obtain ⟨b1, o1, rfl, c1⟩ := unhide HA k (by rw [unhide HLEN]; exact hlt)
        obtain ⟨b2, o2, rfl, c2⟩ := unhide HB k (by rw [← unhide HLEN2]; exact hlt)
        by_cases he : uA us k = uA vs k
        · have HJ2 : Hid (∀ j, j < k + 1 → uA us j = uA vs j) := by
            intro j hj
            by_cases hjk : j = k
            · rw [hjk]; exact he
            · exact unhide HJ j (by omega)
          rw [he] at c1
          generalize uA vs k = r at *
          have hq : ((r : Int) != r) = false := by simp
          clear he HJ
          go_wp2
          go_quiet (fail)
          go_wp2
          go_roundw
          case rel => exact ⟨k + 1, _, by omega, by go_num, rfl, HJ2⟩
          case measure => simp [intOf]; omega
        · have HNE : Hid (us ≠ vs) := hide (fun e => he (by rw [e]))
          have hq : (uA us k != uA vs k) = true := by simpa using he
          generalize uA us k = x at *
          generalize uA vs k = y at *
          clear he
          go_wp2
          go_quiet (fail)
          go_wp2
          go_ret
          exact ⟨ret_bool (decide_eq_false (unhide HNE)).symm, below_drewN (below_drewN (Below.refl _ _) _) _⟩
      · have HEQ : Hid (us = vs) := hide (unhide HEX (fun j hj => unhide HJ j (by omega)))
        go_wp2
        go_ret
        exact ⟨ret_bool (decide_eq_true (unhide HEQ)).symm, below_drewN (Below.refl _ _) m⟩
  · have HNE : Hid (us ≠ vs) := hide (fun e => hl (by rw [e]))
    have hq : ((us.length : Int) != (vs.length : Int)) = true := by simp; omega
    have hq2 : (us.length != vs.length) = true := by simpa using hl
    clear ha hb
    generalize us.length = n at *
    generalize vs.length = m at *
    go_enter Try.func49, Try.ntmps49
    go_wp2
    go_ret
    exact ⟨ret_bool (decide_eq_false (unhide HNE)).symm, Below.refl _ _⟩

set_option maxRecDepth 100000 in
set_option maxHeartbeats 1000000 in
theorem rSame_any (a b : Option Addr) (ca cb : Nat) (us vs : List Int) (w : World) (ha : ReadsU w a us) (hb : ReadsU w b vs) (hn : us.length ≤ 1099511627776) :
    Calls Try.prog 23 #[.slice a us.length ca, .slice b vs.length cb] w fun e w' => e = .returned (.bool (decide (us = vs))) ∧ Below w.heap.size w w' := by
  by_cases hl : us.length = vs.length
  · have HA := hide ha
    have HB := hide hb
    have HEX := hide (uA_ext hl)
    clear ha hb
    rw [← hl]
    generalize hlen : us.length = n at *
    have HLEN := hide hlen
    have HLEN2 := hide hl
    clear hlen hl
    go_enter Try.func23, Try.ntmps23
    go_wp2
    go_loopw [5] (fun v5 wr => ∃ k m : Nat, k ≤ n ∧ v5 = .int .i64 k ∧ wr = w.drewN m ∧ Hid (∀ j, j < k → uA us j = uA vs j)) (fun v5 _ => n - (intOf v5).toNat)
    case atStart => exact ⟨0, 0, Nat.zero_le _, rfl, rfl, hide (fun j hj => by omega)⟩
    case round =>
      obtain ⟨k, m, hk, rfl, rfl, HJ⟩ := hrel
      by_cases hlt : k < n
      · obtain ⟨b1, o1, rfl, c1⟩ := unhide HA k (by rw [unhide HLEN]; exact hlt)
        obtain ⟨b2, o2, rfl, c2⟩ := unhide HB k (by rw [← unhide HLEN2]; exact hlt)
        by_cases he : uA us k = uA vs k
        · have HJ2 : Hid (∀ j, j < k + 1 → uA us j = uA vs j) := by
            intro j hj
            by_cases hjk : j = k
            · rw [hjk]; exact he
            · exact unhide HJ j (by omega)
          rw [he] at c1
          generalize uA vs k = r at *
          have hq : ((r : Int) != r) = false := by simp
          clear he HJ
          go_wp2
          go_quiet (fail)
          go_wp2
          go_roundw
          case rel => exact ⟨k + 1, _, by omega, by go_num, rfl, HJ2⟩
          case measure => simp [intOf]; omega
        · have HNE : Hid (us ≠ vs) := hide (fun e => he (by rw [e]))
          have hq : (uA us k != uA vs k) = true := by simpa using he
          generalize uA us k = x at *
          generalize uA vs k = y at *
          clear he
          go_wp2
          go_quiet (fail)
          go_wp2
          go_ret
          exact ⟨ret_bool (decide_eq_false (unhide HNE)).symm, below_drewN (below_drewN (Below.refl _ _) _) _⟩
      · have HEQ : Hid (us = vs) := hide (unhide HEX (fun j hj => unhide HJ j (by omega)))
        go_wp2
        go_ret
        exact ⟨ret_bool (decide_eq_true (unhide HEQ)).symm, below_drewN (Below.refl _ _) m⟩
  · have HNE : Hid (us ≠ vs) := hide (fun e => hl (by rw [e]))
    have hq : ((us.length : Int) != (vs.length : Int)) = true := by simp; omega
    have hq2 : (us.length != vs.length) = true := by simpa using hl
    clear ha hb
    generalize us.length = n at *
    generalize vs.length = m at *
    go_enter Try.func23, Try.ntmps23
    go_wp2
    go_ret
    exact ⟨ret_bool (decide_eq_false (unhide HNE)).symm, Below.refl _ _⟩

/-! what is laid is read -/
def ub0 (o u : Int) : UInt8 := if o = 1 then b8 (u % 256) else b8 (u / 256)
def ub1 (o u : Int) : UInt8 := if o = 1 then b8 (u / 256) else b8 (u % 256)
theorem ub_two (o u : Int) : ub o u = [ub0 o u, ub1 o u] := by unfold ub ub0 ub1; split <;> rfl
theorem ub_val (o u : Int) (h0 : 0 ≤ u) (h1 : u ≤ 65535) : unitV o ((ub0 o u).toNat : Nat) ((ub1 o u).toNat : Nat) = u := by
  have e1 := b8_val (u / 256) (by omega) (by omega)
  have e2 := b8_val (u % 256) (by omega) (by omega)
  unfold ub0 ub1 unitV
  split
  · rw [e1, e2]; omega
  · rw [e1, e2]; omega
theorem size_list (l : List UInt8) : (⟨l.toArray⟩ : ByteArray).size = l.length := by simp [ByteArray.size]
theorem bN_list (l : List UInt8) (i : Nat) : bN ⟨l.toArray⟩ i = (l.getD i 0).toNat := by
  unfold bN
  by_cases h : i < l.length
  · rw [get_in _ i (by rw [size_list]; exact h)]
    simp [List.getD_eq_getElem?_getD, List.getElem?_eq_getElem h]
    rfl
  · rw [get_out _ i (by rw [size_list]; exact h)]
    simp [List.getD_eq_getElem?_getD, List.getElem?_eq_none (show l.length ≤ i by omega)]
theorem mark_nil (x y : Nat) : markB ⟨([] : List UInt8).toArray⟩ x y = false := by
  unfold markB; rw [size_list]; rfl
theorem mark_cons (a b : UInt8) (l : List UInt8) (x y : Nat) : markB ⟨(a :: b :: l).toArray⟩ x y = (decide (a.toNat = x) && decide (b.toNat = y)) := by
  unfold markB; rw [size_list, bN_list, bN_list]
  simp
theorem rest_cons (a b : UInt8) (l : List UInt8) : (⟨(a :: b :: l).toArray⟩ : ByteArray).extract 2 (⟨(a :: b :: l).toArray⟩ : ByteArray).size = ⟨l.toArray⟩ := by
  rw [size_list]
  refine bytes_ext (by rw [ByteArray.size_extract, size_list, size_list]; simp) (fun k hk => ?_)
  have hk' : k < l.length := by rw [ByteArray.size_extract, size_list] at hk; simp at hk; omega
  have hx : bN ((⟨(a :: b :: l).toArray⟩ : ByteArray).extract 2 (a :: b :: l).length) k = bN ⟨(a :: b :: l).toArray⟩ (2 + k) := by
    unfold bN
    rw [get_in _ _ hk, get_in _ (2 + k) (by rw [size_list]; simp; omega)]
    simp [ByteArray.getElem_extract]
  rw [hx, bN_list, bN_list, Nat.add_comm 2 k]
  rfl
theorem rdU_cons (o : Int) (a b : UInt8) (l : List UInt8) : rdU o ⟨(a :: b :: l).toArray⟩ = unitV o (a.toNat : Nat) (b.toNat : Nat) :: rdU o ⟨l.toArray⟩ := by
  unfold rdU rdK
  rw [size_list, size_list]
  have e : (a :: b :: l).length / 2 = l.length / 2 + 1 := by simp; omega
  rw [e, List.range_succ_eq_map, List.map_cons, List.map_map]
  have h0 : bN ⟨(a :: b :: l).toArray⟩ (2 * 0) = a.toNat := by rw [bN_list]; rfl
  have h1 : bN ⟨(a :: b :: l).toArray⟩ (2 * 0 + 1) = b.toNat := by rw [bN_list]; rfl
  rw [h0, h1]
  refine congrArg (List.cons _) (List.map_congr_left (fun k _ => ?_))
  simp only [Function.comp]
  have e1 : 2 * (k + 1) = 2 * k + 1 + 1 := by omega
  have e2 : 2 * (k + 1) + 1 = 2 * k + 1 + 1 + 1 := by omega
  have g1 : (a :: b :: l).getD (2 * k + 1 + 1) 0 = l.getD (2 * k) 0 := by simp [List.getD_eq_getElem?_getD]
  have g2 : (a :: b :: l).getD (2 * k + 1 + 1 + 1) 0 = l.getD (2 * k + 1) 0 := by simp [List.getD_eq_getElem?_getD]
  rw [bN_list, bN_list, bN_list, bN_list, Nat.succ_eq_add_one, e1, g1, g2]
theorem rdU_flat (o : Int) : ∀ us : List Int, Fits us → rdU o ⟨(us.flatMap (ub o)).toArray⟩ = us := by
  intro us
  induction us with
  | nil => intro _; unfold rdU; rw [List.flatMap_nil, size_list]; rfl
  | cons u us ih =>
    intro h
    rw [List.flatMap_cons, ub_two]
    show rdU o ⟨(ub0 o u :: ub1 o u :: us.flatMap (ub o)).toArray⟩ = _
    rw [rdU_cons, ub_val o u h.head.1 h.head.2, ih h.tail]
/-- with the mark -/
theorem read_marked (o p : Int) (hp : p = 0 ∨ p = 1) (us : List Int) (h : Fits us) :
    ordR o ⟨(layU p true us).toArray⟩ = p ∧ rdU p (restR ⟨(layU p true us).toArray⟩) = us := by
  have e : layU p true us = ub0 p 65279 :: ub1 p 65279 :: us.flatMap (ub p) := by unfold layU; rw [if_pos rfl, ub_two]; rfl
  rw [e]
  have hor : ordR o ⟨(ub0 p 65279 :: ub1 p 65279 :: us.flatMap (ub p)).toArray⟩ = p ∧ restR ⟨(ub0 p 65279 :: ub1 p 65279 :: us.flatMap (ub p)).toArray⟩ = ⟨(us.flatMap (ub p)).toArray⟩ := by
    unfold ordR restR
    rw [mark_cons, mark_cons, rest_cons]
    rcases hp with rfl | rfl
    · have : ((decide ((ub0 0 65279).toNat = 254) && decide ((ub1 0 65279).toNat = 255))) = true := by decide
      rw [this]; exact ⟨rfl, rfl⟩
    · have h1 : ((decide ((ub0 1 65279).toNat = 254) && decide ((ub1 1 65279).toNat = 255))) = false := by decide
      have h2 : ((decide ((ub0 1 65279).toNat = 255) && decide ((ub1 1 65279).toNat = 254))) = true := by decide
      rw [h1, h2]; exact ⟨rfl, rfl⟩
  rw [hor.2]
  exact ⟨hor.1, rdU_flat p us h⟩
theorem mark_of (o u : Int) (ho : o = 0 ∨ o = 1) (h0 : 0 ≤ u) (h1 : u ≤ 65535) :
    ((decide ((ub0 o u).toNat = 254) && decide ((ub1 o u).toNat = 255)) || (decide ((ub0 o u).toNat = 255) && decide ((ub1 o u).toNat = 254))) = (decide (u = 65279) || decide (u = 65534)) := by
  have e1 := b8_val (u / 256) (by omega) (by omega)
  have e2 := b8_val (u % 256) (by omega) (by omega)
  rw [Bool.eq_iff_iff]
  unfold ub0 ub1
  rcases ho with rfl | rfl <;> simp <;> omega
/-- without the mark -/
theorem read_bare (o : Int) (ho : o = 0 ∨ o = 1) (us : List Int) (h : Fits us) (hn : us = [] ∨ ¬ (uA us 0 = 65279 ∨ uA us 0 = 65534)) :
    ordR o ⟨(layU o false us).toArray⟩ = o ∧ rdU o (restR ⟨(layU o false us).toArray⟩) = us := by
  have e : layU o false us = us.flatMap (ub o) := by unfold layU; simp
  rw [e]
  have hm : markB ⟨(us.flatMap (ub o)).toArray⟩ 254 255 = false ∧ markB ⟨(us.flatMap (ub o)).toArray⟩ 255 254 = false := by
    cases us with
    | nil => exact ⟨mark_nil _ _, mark_nil _ _⟩
    | cons u us =>
      rw [List.flatMap_cons, ub_two]
      have hmo := mark_of o u ho h.head.1 h.head.2
      have hu : ¬ (u = 65279 ∨ u = 65534) := by
        rcases hn with hn | hn
        · cases hn
        · exact hn
      have : (decide (u = 65279) || decide (u = 65534)) = false := by simpa using hu
      rw [this, Bool.or_eq_false_iff] at hmo
      show markB ⟨(ub0 o u :: ub1 o u :: us.flatMap (ub o)).toArray⟩ _ _ = false ∧ markB ⟨(ub0 o u :: ub1 o u :: us.flatMap (ub o)).toArray⟩ _ _ = false
      rw [mark_cons, mark_cons]; exact hmo
  unfold ordR restR
  rw [hm.1, hm.2]
  exact ⟨rfl, rdU_flat o us h⟩
theorem read_cut (o : Int) (ho : o = 0 ∨ o = 1) (us : List Int) (h : Fits us) (hne : us ≠ []) (hn : uA us 0 = 65279 ∨ uA us 0 = 65534) (p : Int) :
    (rdU p (restR ⟨(layU o false us).toArray⟩)).length = us.length - 1 := by
  have e : layU o false us = us.flatMap (ub o) := by unfold layU; simp
  rw [e]
  cases us with
  | nil => exact absurd rfl hne
  | cons u us =>
    rw [List.flatMap_cons, ub_two]
    have hmo := mark_of o u ho h.head.1 h.head.2
    have hu : u = 65279 ∨ u = 65534 := hn
    have : (decide (u = 65279) || decide (u = 65534)) = true := by simpa using hu
    rw [this] at hmo
    show (rdU p (restR ⟨(ub0 o u :: ub1 o u :: us.flatMap (ub o)).toArray⟩)).length = _
    unfold restR
    rw [mark_cons, mark_cons, hmo, if_pos rfl, rest_cons]
    unfold rdU
    rw [rdK_len, size_list, flat_len]
    simp
end Go.Proofs.Ytghcheoholkpbaa
