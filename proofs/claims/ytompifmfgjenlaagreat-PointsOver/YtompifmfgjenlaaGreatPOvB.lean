/-
  PointsOver: the program's calls, told of maps wherever they lie.
-/
import Derived.Test.YtompifmfgjenlaaGreatPOvA
import Derived.Test.YtompifmfgjenlaaGreatPOvI
import Derived.Test.YtompifmfgjenlaaGreatPoQr
import Derived.Test.YtompifmfgjenlaaGreatPoQs
import Derived.Test.YtompifmfgjenlaaGreatPoQk
import Derived.Test.YtompifmfgjenlaaGreatPoQc
import Derived.Test.YtompifmfgjenlaaGreatPoQq
import Derived.Test.YtompifmfgjenlaaGreatPoQg
namespace Go.Proofs.YtompifmfgjenlaaGreat
open Go.RowKit Go.PlainAid Go.Lib Go.PRow Go.Shelf Go.Seq4
set_option linter.unusedVariables false
set_option linter.unusedSimpArgs false

theorem eqI_iff (a b : Int) : VI.eqv a b = true ↔ a = b := by simp [VI.eqv]
theorem eqS_iff (a b : ByteArray) : VS.eqv a b = true ↔ a = b := by simp [VS.eqv]
theorem eqB_iff (a b : Bool) : VB.eqv a b = true ↔ a = b := by cases a <;> cases b <;> decide
/-- a map of numbers, of truths, of texts -/
def MI (V : World) (b : Nat) (ps : List (Pc Int)) : Prop := OkP ps ∧ ∃ u, VI.IsMap V b u ∧ VI.RowP V 0 u ps
def MB (V : World) (b : Nat) (ps : List (Pc Bool)) : Prop := OkP ps ∧ ∃ u, VB.IsMap V b u ∧ VB.RowP V 0 u ps
def MS (V : World) (b : Nat) (ps : List (Pc ByteArray)) : Prop := OkP ps ∧ ∃ u, VS.IsMap V b u ∧ VS.RowP V 0 u ps
theorem MI.below {V V' : World} {b : Nat} {ps : List (Pc Int)} (h : MI V b ps) (hb : Below V.heap.size V V') : MI V' b ps := by
  obtain ⟨o, u, h1, h2⟩ := h
  exact ⟨o, u, h1.below hb, h2.below hb⟩
theorem MB.below {V V' : World} {b : Nat} {ps : List (Pc Bool)} (h : MB V b ps) (hb : Below V.heap.size V V') : MB V' b ps := by
  obtain ⟨o, u, h1, h2⟩ := h
  exact ⟨o, u, h1.below hb, h2.below hb⟩
theorem MS.below {V V' : World} {b : Nat} {ps : List (Pc ByteArray)} (h : MS V b ps) (hb : Below V.heap.size V V') : MS V' b ps := by
  obtain ⟨o, u, h1, h2⟩ := h
  exact ⟨o, u, h1.below hb, h2.below hb⟩
theorem of_map (a b : Option Addr) (c d : Nat) (L : List (Int × Int)) (vl : List Int) (w : World) (hL : ReadsG4 w a L) (hT : ReadsI4 w b vl) :
    Calls Tryz.prog 4 #[.slice a L.length c, .slice b vl.length d] w fun e w' => ∃ bm ps, e = .returned (.pointer (some ⟨bm, 0, none⟩)) ∧ MI w' bm ps ∧ Below w.heap.size w w' :=
  (of_any a b c d L vl w hL hT).mono fun e w' ⟨bm, u, ps, h1, h2, h3, h4, _, h6⟩ => ⟨bm, ps, h1, ⟨h2, u, h3, RowV.mono h4 (Nat.zero_le _)⟩, h6⟩
theorem held_nilI (w : World) : Calls Tryz.prog 28 #[.pointer none] w fun e w' => e = .returned (.slice none 0 0) ∧ w' = w := by
  go_enter Tryz.func28, Tryz.ntmps28
  go_wp2
  go_ret
  exact ⟨rfl, rfl⟩
theorem over_maps {w : World} {b1 b2 : Nat} {ls hs : List (Pc Int)} (h1 : MI w b1 ls) (h2 : MI w b2 hs) :
    Calls Tryz.prog 6 #[.pointer (some ⟨b1, 0, none⟩), .pointer (some ⟨b2, 0, none⟩)] w fun e w' => ∃ bo, e = .returned (.pointer (some ⟨bo, 0, none⟩)) ∧ MI w' bo (overP VI.eqv hs ls) ∧ Below w.heap.size w w' := by
  obtain ⟨o1, u1, m1, r1⟩ := h1
  obtain ⟨o2, u2, m2, r2⟩ := h2
  exact (VI.over_any _ _ u1 0 ls o1 u2 0 hs o2 (fun a b h => (eqI_iff a b).1 h) w (fun V hV => VI.held_map b1 u1 V (m1.below hV)) r1 (fun V hV => VI.held_map b2 u2 V (m2.below hV)) r2 ⟨_, rfl⟩ ⟨_, rfl⟩).mono
    fun e w' ⟨bo, u, e1, e2, e3, _, e5⟩ => ⟨bo, e1, ⟨over_ok VI.eqv (fun a b h => (eqI_iff a b).1 h) o2 o1, u, e2, RowV.mono e3 (Nat.zero_le _)⟩, e5⟩
theorem over_low {w : World} {b2 : Nat} {hs : List (Pc Int)} (h2 : MI w b2 hs) :
    Calls Tryz.prog 6 #[.pointer none, .pointer (some ⟨b2, 0, none⟩)] w fun e w' => ∃ bo, e = .returned (.pointer (some ⟨bo, 0, none⟩)) ∧ MI w' bo (overP VI.eqv hs []) ∧ Below w.heap.size w w' := by
  obtain ⟨o2, u2, m2, r2⟩ := h2
  exact (VI.over_any _ _ (.slice none 0 0) 0 [] OkP.nil u2 0 hs o2 (fun a b h => (eqI_iff a b).1 h) w (fun V hV => held_nilI V) (RowV.nil _ _ _ _ _) (fun V hV => VI.held_map b2 u2 V (m2.below hV)) r2 ⟨_, rfl⟩ ⟨_, rfl⟩).mono
    fun e w' ⟨bo, u, e1, e2, e3, _, e5⟩ => ⟨bo, e1, ⟨over_ok VI.eqv (fun a b h => (eqI_iff a b).1 h) o2 OkP.nil, u, e2, RowV.mono e3 (Nat.zero_le _)⟩, e5⟩
theorem over_high {w : World} {b1 : Nat} {ls : List (Pc Int)} (h1 : MI w b1 ls) :
    Calls Tryz.prog 6 #[.pointer (some ⟨b1, 0, none⟩), .pointer none] w fun e w' => ∃ bo, e = .returned (.pointer (some ⟨bo, 0, none⟩)) ∧ MI w' bo (overP VI.eqv [] ls) ∧ Below w.heap.size w w' := by
  obtain ⟨o1, u1, m1, r1⟩ := h1
  exact (VI.over_any _ _ u1 0 ls o1 (.slice none 0 0) 0 [] OkP.nil (fun a b h => (eqI_iff a b).1 h) w (fun V hV => VI.held_map b1 u1 V (m1.below hV)) r1 (fun V hV => held_nilI V) (RowV.nil _ _ _ _ _) ⟨_, rfl⟩ ⟨_, rfl⟩).mono
    fun e w' ⟨bo, u, e1, e2, e3, _, e5⟩ => ⟨bo, e1, ⟨over_ok VI.eqv (fun a b h => (eqI_iff a b).1 h) OkP.nil o1, u, e2, RowV.mono e3 (Nat.zero_le _)⟩, e5⟩
theorem sameI_yes {w : World} {b c : Nat} {ps qs : List (Pc Int)} (h1 : MI w b ps) (h2 : MI w c qs) (he : ∀ x, atP ps x = atP qs x) :
    Calls Tryz.prog 16 #[.pointer (some ⟨b, 0, none⟩), .pointer (some ⟨c, 0, none⟩)] w fun e w' => e = .returned (.bool true) ∧ Below w.heap.size w w' := by
  obtain ⟨o1, u1, m1, r1⟩ := h1
  obtain ⟨o2, u2, m2, r2⟩ := h2
  have e : strsP VI.eqv ps = strsP VI.eqv qs := sep_one (strs_ok _ o1) (strs_ok _ o2) (strs_sep VI.eqv eqI_iff _) (strs_sep VI.eqv eqI_iff _) fun x => by
    rw [strs_at VI.eqv (fun a b h => (eqI_iff a b).1 h) o1, strs_at VI.eqv (fun a b h => (eqI_iff a b).1 h) o2, he]
  have hs := VI.same_maps b c u1 u2 0 0 ps qs o1 o2 w m1 r1 m2 r2
  rwa [(VI.eqL_iff eqI_iff _ _).2 e] at hs
theorem sameS_yes {w : World} {b c : Nat} {ps qs : List (Pc ByteArray)} (h1 : MS w b ps) (h2 : MS w c qs) (he : ∀ x, atP ps x = atP qs x) :
    Calls Tryz.prog 17 #[.pointer (some ⟨b, 0, none⟩), .pointer (some ⟨c, 0, none⟩)] w fun e w' => e = .returned (.bool true) ∧ Below w.heap.size w w' := by
  obtain ⟨o1, u1, m1, r1⟩ := h1
  obtain ⟨o2, u2, m2, r2⟩ := h2
  have e : strsP VS.eqv ps = strsP VS.eqv qs := sep_one (strs_ok _ o1) (strs_ok _ o2) (strs_sep VS.eqv eqS_iff _) (strs_sep VS.eqv eqS_iff _) fun x => by
    rw [strs_at VS.eqv (fun a b h => (eqS_iff a b).1 h) o1, strs_at VS.eqv (fun a b h => (eqS_iff a b).1 h) o2, he]
  have hs := VS.same_maps b c u1 u2 0 0 ps qs o1 o2 w m1 r1 m2 r2
  rwa [(VS.eqL_iff eqS_iff _ _).2 e] at hs
theorem sizeI_map {w : World} {b : Nat} {ps : List (Pc Int)} (h : MI w b ps) : Calls Tryz.prog 14 #[.pointer (some ⟨b, 0, none⟩)] w fun e w' => e = .returned (.int .i64 (sizeP ps)) ∧ Below w.heap.size w w' := by
  obtain ⟨o, u, m, r⟩ := h
  exact VI.size_map b u 0 ps o w m r
theorem sizeS_map {w : World} {b : Nat} {ps : List (Pc ByteArray)} (h : MS w b ps) : Calls Tryz.prog 13 #[.pointer (some ⟨b, 0, none⟩)] w fun e w' => e = .returned (.int .i64 (sizeP ps)) ∧ Below w.heap.size w w' := by
  obtain ⟨o, u, m, r⟩ := h
  exact VS.size_map b u 0 ps o w m r
theorem turnIB {w : World} {b : Nat} {ps : List (Pc Int)} (h : MI w b ps) : Calls Tryz.prog 8 #[.pointer (some ⟨b, 0, none⟩), .func (.func 9) #[] #[]] w fun e w' => ∃ bm, e = .returned (.pointer (some ⟨bm, 0, none⟩)) ∧ MB w' bm (turP evB (strsP VI.eqv ps)) ∧ Below w.heap.size w w' := by
  obtain ⟨o, u, m, r⟩ := h
  exact (turn_PTuIB b u 0 ps o w m r).mono fun e w' ⟨bm, u', e1, e2, e3, _, e5⟩ => ⟨bm, e1, ⟨turP_ok _ (strs_ok _ o), u', e2, RowV.mono e3 (Nat.zero_le _)⟩, e5⟩
theorem turnBS {w : World} {b : Nat} {ps : List (Pc Bool)} (h : MB w b ps) : Calls Tryz.prog 7 #[.pointer (some ⟨b, 0, none⟩), .func (.func 10) #[] #[]] w fun e w' => ∃ bm, e = .returned (.pointer (some ⟨bm, 0, none⟩)) ∧ MS w' bm (turP evS (strsP VB.eqv ps)) ∧ Below w.heap.size w w' := by
  obtain ⟨o, u, m, r⟩ := h
  exact (turn_PTuBS b u 0 ps o w m r).mono fun e w' ⟨bm, u', e1, e2, e3, _, e5⟩ => ⟨bm, e1, ⟨turP_ok _ (strs_ok _ o), u', e2, RowV.mono e3 (Nat.zero_le _)⟩, e5⟩
theorem turnIS {w : World} {b : Nat} {ps : List (Pc Int)} (h : MI w b ps) : Calls Tryz.prog 11 #[.pointer (some ⟨b, 0, none⟩), .func (.func 12) #[] #[]] w fun e w' => ∃ bm, e = .returned (.pointer (some ⟨bm, 0, none⟩)) ∧ MS w' bm (turP evI (strsP VI.eqv ps)) ∧ Below w.heap.size w w' := by
  obtain ⟨o, u, m, r⟩ := h
  exact (turn_PTuIS b u 0 ps o w m r).mono fun e w' ⟨bm, u', e1, e2, e3, _, e5⟩ => ⟨bm, e1, ⟨turP_ok _ (strs_ok _ o), u', e2, RowV.mono e3 (Nat.zero_le _)⟩, e5⟩
theorem turnZ {w : World} {b : Nat} {ps : List (Pc Int)} (h : MI w b ps) : Calls Tryz.prog 11 #[.pointer (some ⟨b, 0, none⟩), .nilFunc] w fun e w' => ∃ bm, e = .returned (.pointer (some ⟨bm, 0, none⟩)) ∧ MS w' bm (turP zeS (strsP VI.eqv ps)) ∧ Below w.heap.size w w' := by
  obtain ⟨o, u, m, r⟩ := h
  exact (turn_PTuZ b u 0 ps o w m r).mono fun e w' ⟨bm, u', e1, e2, e3, _, e5⟩ => ⟨bm, e1, ⟨turP_ok _ (strs_ok _ o), u', e2, RowV.mono e3 (Nat.zero_le _)⟩, e5⟩
/-- the values of a map that was turned by no function -/
theorem zero_val {ps : List (Pc Int)} (o : OkP ps) {p : Pc ByteArray} (h : p ∈ strsP VS.eqv (turP zeS (strsP VI.eqv ps))) : p.val = ⟨#[]⟩ := by
  have o1 := turP_ok zeS (strs_ok VI.eqv o)
  have os := strs_ok VS.eqv o1
  have k := os.2 p h
  have e := mem_at os h (Int.le_refl p.lo) k.2.1
  rw [strs_at VS.eqv (fun a b h => (eqS_iff a b).1 h) o1, turP_at] at e
  cases hx : atP (strsP VI.eqv ps) p.lo with
  | none => rw [hx] at e; cases e
  | some v => rw [hx] at e; exact (Option.some.inj e).symm
/-- maps over one another, point by point -/
theorem over_assoc {xs ys zs : List (Pc Int)} (ox : OkP xs) (oy : OkP ys) (oz : OkP zs) (x : Int) :
    atP (overP VI.eqv zs (overP VI.eqv ys xs)) x = atP (overP VI.eqv (overP VI.eqv zs ys) xs) x := by
  have he : ∀ a b, VI.eqv a b = true → a = b := fun a b h => (eqI_iff a b).1 h
  rw [at_overP _ he oz (over_ok _ he oy ox), at_overP _ he oy ox, at_overP _ he (over_ok _ he oz oy) ox, at_overP _ he oz oy]
  cases atP zs x <;> rfl
theorem over_self {xs : List (Pc Int)} (ox : OkP xs) (x : Int) : atP (overP VI.eqv xs xs) x = atP xs x := by
  rw [at_overP _ (fun a b h => (eqI_iff a b).1 h) ox ox]
  cases atP xs x <;> rfl
theorem over_lowE {xs : List (Pc Int)} (ox : OkP xs) (x : Int) : atP (overP VI.eqv xs []) x = atP xs x := by
  rw [at_overP _ (fun a b h => (eqI_iff a b).1 h) ox OkP.nil]
  cases atP xs x <;> rfl
theorem over_highE {xs : List (Pc Int)} (ox : OkP xs) (x : Int) : atP (overP VI.eqv [] xs) x = atP xs x := by
  rw [at_overP _ (fun a b h => (eqI_iff a b).1 h) OkP.nil ox]
  rfl
theorem turn_twice {xs : List (Pc Int)} (ox : OkP xs) (x : Int) : atP (turP evS (strsP VB.eqv (turP evB (strsP VI.eqv xs)))) x = atP (turP evI (strsP VI.eqv xs)) x := by
  rw [turP_at, strs_at VB.eqv (fun a b h => (eqB_iff a b).1 h) (turP_ok _ (strs_ok _ ox)), turP_at, turP_at]
  cases atP (strsP VI.eqv xs) x <;> rfl
end Go.Proofs.YtompifmfgjenlaaGreat
