/-
  What the law BracketsKnown asks: closed rows, texts and twins.
-/
import Derived.Test.YtijiiapnbeljnaaGreatDoorBrPw
import Derived.Deep.Cut
namespace Go.Proofs.YtijiiapnbeljnaaGreatDoor
open Go.RowKit Go.PlainAid Go.Lib Go.Shelf Go.PHexM
set_option linter.unusedVariables false
set_option linter.unusedSimpArgs false

set_option maxRecDepth 100000 in
theorem fault_none (line code : Nat) (hl : line < 100) (hc : code < 100) (fb : Nat) (w : World) (hb : w.heap[fb]? = some (.cells #[.string ⟨#[]⟩, .int .i64 (line : Nat), .int .i64 (code : Nat)] 93 (0, 0))) :
    Calls Tryz.prog 248 #[.pointer (some ⟨fb, 0, none⟩)] w fun e w' => e = .returned (.string (⟨#[108, 105, 110, 101, 32]⟩ ++ decS line ++ ⟨#[58, 32]⟩ ++ errnoS code)) ∧ Below w.heap.size w w' := by
  have b : Blk w fb [.string ⟨#[]⟩, .int .i64 (line : Nat), .int .i64 (code : Nat)] 93 := hb
  have c0 := b.cell (j := 0) rfl
  have c1 := b.cell (j := 1) rfl
  have c2 := b.cell (j := 2) rfl
  have HI := hide (fun W => Tryz.strconv_Itoa_small line hl W)
  have HC := hide (fun W => errno_any code hc W)
  have l1 := decS_le line hl
  have l2 : (errnoS code).size ≤ 8 := by
    have := decS_le code hc
    have e6 : (⟨#[101, 114, 114, 111, 114, 32]⟩ : ByteArray).size = 6 := rfl
    unfold errnoS
    rw [ByteArray.size_append]; omega
  obtain ⟨D, hD⟩ : ∃ D, decS line = D := ⟨_, rfl⟩
  have hD' : (⟨(Lib.decDigits line).toArray⟩ : ByteArray) = D := hD
  rw [hD'] at HI
  rw [hD] at l1 ⊢
  generalize errnoS code = E at *
  clear hD hD' b hb
  have e1 : (⟨#[108, 105, 110, 101, 32]⟩ : ByteArray).size = 5 := rfl
  have e2 : (⟨#[58, 32]⟩ : ByteArray).size = 2 := rfl
  have n1 : ¬ 9223372036854775807 < 5 + D.size := by omega
  have n2 : ¬ 9223372036854775807 < ((⟨#[108, 105, 110, 101, 32]⟩ : ByteArray) ++ D).size + 2 := by simp only [ByteArray.size_append]; omega
  have n3 : ¬ 9223372036854775807 < ((⟨#[108, 105, 110, 101, 32]⟩ : ByteArray) ++ D ++ ⟨#[58, 32]⟩).size + E.size := by simp only [ByteArray.size_append]; omega
  clear e1 e2
  go_enter Tryz.func248, Tryz.ntmps248
  go_wp2
  go_quiet (first | (go_at_call 245; refine Calls.quiet_of_same (unhide HI _)) | (go_at_call 244; refine Calls.quiet_of_same (unhide HC _)))
  go_wp2
  go_ret
  exact ⟨rfl, bdrN (Below.refl _ _) _⟩

abbrev brsC (l : List BrD) : List Value := l.flatMap brC
theorem brsC_len (l : List BrD) : (brsC l).length = l.length * 3 := by
  induction l with
  | nil => rfl
  | cons x l ih => rw [show brsC (x :: l) = brC x ++ brsC l from rfl, List.length_append, ih, List.length_cons]; simp; omega
theorem brsC_at {l : List BrD} : ∀ {i : Nat} {x : BrD}, l[i]? = some x → ∀ j, j < 3 → (brsC l)[i * 3 + j]? = (brC x)[j]? := by
  induction l with
  | nil => intro i x h; simp at h
  | cons y l ih =>
    intro i x h j hj
    rw [show brsC (y :: l) = brC y ++ brsC l from rfl]
    cases i with
    | zero =>
      simp only [List.getElem?_cons_zero, Option.some.injEq] at h
      subst h
      rw [List.getElem?_append_left (by simp; omega)]
      simp
    | succ i =>
      simp only [List.getElem?_cons_succ] at h
      rw [List.getElem?_append_right (by simp; omega), ← ih h j hj]
      congr 1
      simp
      omega
theorem brMem_blk {w : World} {g : Nat} {cs : Array Value} {T : TypeId} {l : List BrD} (h : w.heap[g]? = some (.cells cs T (0, 0))) (hc : cs.toList.take (l.length * 3) = brsC l) : BrMem w (some ⟨g, 0, none⟩) l := by
  intro i x hx
  refine ⟨g, 0, rfl, fun j v hv => ?_⟩
  have hj : j < 3 := by have := (List.getElem?_eq_some_iff.1 hv).1; simpa using this
  have hl := (List.getElem?_eq_some_iff.1 hx).1
  have e := brsC_at hx j hj
  rw [hv, ← hc, List.getElem?_take, if_pos (by omega)] at e
  rw [Nat.zero_add]
  simpa [World.cell?, h] using e
theorem brs_mem {w : World} {base : Nat} {v : Value} {n : Nat} {l : List BrD} (hn : l.length = n) (h : w.ownsRow base 26 3 v n (brsC l)) (h0 : l ≠ []) : ∃ g c, v = .slice (some ⟨g, 0, none⟩) n c ∧ BrMem w (some ⟨g, 0, none⟩) l ∧ g < w.heap.size := by
  subst hn
  rcases h.2 with ⟨rfl, h0'⟩ | ⟨g, cap, cur, rfl, hb, hh, h3, h4, h5, h6⟩
  · exact absurd (List.length_eq_zero_iff.1 h0') h0
  · exact ⟨g, cap, rfl, brMem_blk hh h6, (Array.getElem?_eq_some_iff.1 hh).1⟩
theorem twMem_blk {w : World} {g : Nat} {cs : Array Value} {T : TypeId} {l : List (Int × Int)} (h : w.heap[g]? = some (.cells cs T (0, 0))) (hc : ∀ (i : Nat) (x : Int × Int), l[i]? = some x → cs[i * 2]? = some (.int .i32 x.1) ∧ cs[i * 2 + 1]? = some (.int .i32 x.2)) : TwMem w (some ⟨g, 0, none⟩) l := by
  intro i x hx
  obtain ⟨h1, h2⟩ := hc i x hx
  refine ⟨g, 0, rfl, ?_, ?_⟩
  · rw [Nat.zero_add]; simpa [World.cell?, h] using h1
  · rw [Nat.zero_add]; simpa [World.cell?, h] using h2

theorem new_no {rows : List BrD} {g nn c : Nat} (w : World) (hm : BrMem w (some ⟨g, 0, none⟩) rows) (hg : g < w.heap.size) (hnn : rows.length = nn) (hnb : nn ≤ 1000) (hok : ∀ x ∈ rows, BrOk x) (hE : ErrT w) {no why : Int} (hp : gathP (placedL rows) = some (no, why)) :
    Calls Tryz.prog 10 #[.slice (some ⟨g, 0, none⟩) nn c] w fun e w' => e = .returned (.tuple #[.pointer none, .int .i64 no, .int .i64 why]) ∧ Below w.heap.size w w' :=
  (new8_any rows _ nn c hnn (by omega) w hm (fun k off e => by cases e; exact hg) hok hE).mono (by
    rintro e w' ⟨hb, (⟨h, _⟩ | ⟨no', why', h, h1⟩)⟩
    · rw [hp] at h; cases h
    · rw [hp] at h; cases h; exact ⟨h1, hb⟩)
theorem new_yes {rows : List BrD} {g nn c : Nat} (w : World) (hm : BrMem w (some ⟨g, 0, none⟩) rows) (hg : g < w.heap.size) (hnn : rows.length = nn) (hnb : nn ≤ 1000) (hok : ∀ x ∈ rows, BrOk x) (hE : ErrT w) (hp : gathP (placedL rows) = none) :
    Calls Tryz.prog 10 #[.slice (some ⟨g, 0, none⟩) nn c] w fun e w' => ∃ B, e = .returned (.tuple #[.pointer (some ⟨B, 0, none⟩), .int .i64 0, .int .i64 0]) ∧ Book w' B rows [] ∧ Below w.heap.size w w' :=
  (new8_any rows _ nn c hnn (by omega) w hm (fun k off e => by cases e; exact hg) hok hE).mono (by
    rintro e w' ⟨hb, (⟨_, B, h1, h2, _⟩ | ⟨no', why', h, h1⟩)⟩
    · exact ⟨B, h1, h2, hb⟩
    · rw [hp] at h; cases h)
theorem parse_no {file s : ByteArray} (hs : s.size ≤ 1073741824) (w : World) (hE : ErrT w) {no why : Int} (hp : gathP (linedL s) = some (no, why)) :
    Calls Tryz.prog 17 #[.string file, .string s] w fun e w' => ∃ fb, e = .returned (.tuple #[.pointer none, .iface 91 (.pointer (some ⟨fb, 0, none⟩))]) ∧ w'.heap[fb]? = some (.cells #[.string file, .int .i64 no, .int .i64 why] 93 (0, 0)) ∧ Below w.heap.size w w' :=
  (parse8_any file s hs w hE).mono (by
    rintro e w' ⟨hb, (⟨h, _⟩ | ⟨no', why', fb, h, h1, h2, h3⟩)⟩
    · rw [hp] at h; cases h
    · rw [hp] at h; cases h; exact ⟨fb, h1, h3, hb⟩)
theorem parse_yes {file s : ByteArray} (hs : s.size ≤ 1073741824) (w : World) (hE : ErrT w) (hp : gathP (linedL s) = none) :
    Calls Tryz.prog 17 #[.string file, .string s] w fun e w' => ∃ B, e = .returned (.tuple #[.pointer (some ⟨B, 0, none⟩), .nilIface]) ∧ Below w.heap.size w w' :=
  (parse8_any file s hs w hE).mono (by
    rintro e w' ⟨hb, (⟨_, B, h1, _⟩ | ⟨no', why', fb, h, h1, h2, h3⟩)⟩
    · exact ⟨B, h1, hb⟩
    · rw [hp] at h; cases h)
theorem twins_no {B : Nat} {rows : List BrD} {tw l : List (Int × Int)} {g nn c : Nat} (w : World) (h : Book w B rows tw) (hm : TwMem w (some ⟨g, 0, none⟩) l) (hrs : ∀ x ∈ rows, BrOk x) (hl : l.length = nn) (hnb : nn ≤ 1000) (hok : ∀ t ∈ l, i32Ok t.1 ∧ i32Ok t.2) {k : Nat} (hp : badT rows (twinsL rows l) l = some k) :
    Calls Tryz.prog 15 #[.pointer (some ⟨B, 0, none⟩), .slice (some ⟨g, 0, none⟩) nn c] w fun e w' => e = .returned (.tuple #[.pointer none, .int .i64 k, .int .i64 83]) ∧ Below w.heap.size w w' :=
  (twins_any B rows tw hrs l _ nn c hl (by omega) hok w h hm).mono (by
    rintro e w' ⟨hb, (⟨k', h1, h2⟩ | ⟨h1, _⟩)⟩
    · rw [hp] at h1; cases h1; exact ⟨h2, hb⟩
    · rw [hp] at h1; cases h1)
theorem twins_yes {B : Nat} {rows : List BrD} {tw l : List (Int × Int)} {g nn c : Nat} (w : World) (h : Book w B rows tw) (hm : TwMem w (some ⟨g, 0, none⟩) l) (hrs : ∀ x ∈ rows, BrOk x) (hl : l.length = nn) (hnb : nn ≤ 1000) (hok : ∀ t ∈ l, i32Ok t.1 ∧ i32Ok t.2) (hp : badT rows (twinsL rows l) l = none) :
    Calls Tryz.prog 15 #[.pointer (some ⟨B, 0, none⟩), .slice (some ⟨g, 0, none⟩) nn c] w fun e w' => ∃ B', e = .returned (.tuple #[.pointer (some ⟨B', 0, none⟩), .int .i64 0, .int .i64 0]) ∧ Book w' B' rows (twinsL rows l) ∧ Below w.heap.size w w' :=
  (twins_any B rows tw hrs l _ nn c hl (by omega) hok w h hm).mono (by
    rintro e w' ⟨hb, (⟨k', h1, h2⟩ | ⟨_, B', h1, h2⟩)⟩
    · rw [hp] at h1; cases h1
    · exact ⟨B', h1, h2, hb⟩)

/-! the law's rows, texts and twins -/
abbrev kn6 : List BrD := [⟨40, 41, 1⟩, ⟨41, 40, 2⟩, ⟨9001, 9002, 1⟩, ⟨9002, 9001, 2⟩, ⟨12296, 12297, 1⟩, ⟨12297, 12296, 2⟩]
abbrev knT : ByteArray := ⟨#[48, 48, 50, 56, 59, 32, 48, 48, 50, 57, 59, 32, 111, 32, 35, 32, 76, 69, 70, 84, 10, 48, 48, 50, 57, 59, 48, 48, 50, 56, 59, 99]⟩
abbrev knU : ByteArray := ⟨#[48, 48, 50, 56, 59, 32, 48, 48, 50, 57, 10]⟩
abbrev knV : ByteArray := ⟨#[35, 32, 120, 10, 48, 48, 50, 56, 59, 32, 48, 48, 50, 57, 59, 32, 120, 10]⟩
theorem kn1 : gathP (placedL [⟨40, 41, 1⟩]) = some (0, 82) := by decide +kernel
theorem kn2 : gathP (placedL [⟨40, 40, 1⟩]) = some (0, 80) := by decide +kernel
theorem kn3 : gathP (placedL [⟨40, 41, 1⟩, ⟨40, 41, 1⟩]) = some (1, 81) := by decide +kernel
theorem kn4 : gathP (placedL kn6) = none := by decide +kernel
theorem kn5 : gathP (linedL knT) = none := by decide +kernel
theorem kn7 : gathP (linedL knU) = some (1, 80) := by decide +kernel
theorem kn8 : gathP (linedL knV) = some (2, 51) := by decide +kernel
theorem kn9 : badT kn6 (twinsL kn6 [(9001, 12296), (9002, 12297)]) [(9001, 12296), (9002, 12297)] = none := by decide +kernel
theorem kn10 : badT kn6 (twinsL kn6 [(9001, 12296)]) [(9001, 12296)] = some 0 := by decide +kernel
theorem kn11 : badT kn6 (twinsL kn6 [(65, 66)]) [(65, 66)] = none := by decide +kernel
theorem kn12 : twnP (twinsL kn6 [(9001, 12296), (9002, 12297)]) 9001 = 12296 := by decide +kernel
theorem kn13 : matP kn6 (twinsL kn6 [(9001, 12296), (9002, 12297)]) 9001 12297 = true := by decide +kernel
theorem kn14 : matP kn6 (twinsL kn6 [(9001, 12296), (9002, 12297)]) 12296 9002 = true := by decide +kernel
theorem kn15 : matP kn6 [] 9001 12297 = false := by decide +kernel
instance (x : BrD) : Decidable (BrOk x) := by unfold BrOk i32Ok u8Ok; infer_instance
instance (r : Int) : Decidable (i32Ok r) := by unfold i32Ok; infer_instance
theorem kn6_ok : ∀ x ∈ kn6, BrOk x := by decide +kernel
theorem infoBr : (Tryz.prog.info? 26).map (fun i => (i.zero, i.size, i.bytes)) = some (some (.agg #[.int .i32 0, .int .i32 0, .int .u8 0]), 3, 12) := by kernel_rfl
end Go.Proofs.YtijiiapnbeljnaaGreatDoor
