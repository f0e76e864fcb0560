/-
  Props made by hand, in memory: at, Class.
-/
import Derived.Test.YtkckkchnmgidgaaPaA
namespace Go.Proofs.Ytkckkchnmgidgaa
open Go.RowKit Go.PlainAid Go.Lib
set_option linter.unusedVariables false
set_option maxRecDepth 100000
set_option maxHeartbeats 2000000

structure CharD where
  r : Int
  c : Int
  o : Int
  s : Int
  t : Int
  m : Int
  b : Bool
def charC (x : CharD) : List Value := [.int .i32 x.r, .int .u8 x.c, .int .i32 x.o, .int .u8 x.s, .int .i32 x.t, .int .i32 x.m, .bool x.b]
def charV (x : CharD) : Value := .agg #[.int .i32 x.r, .int .u8 x.c, .int .i32 x.o, .int .u8 x.s, .int .i32 x.t, .int .i32 x.m, .bool x.b]
def noC : CharD := ⟨0, 0, 0, 0, 0, 0, false⟩
/-- what the first of the characters says of r -/
def lookC : List CharD → Int → Option CharD
  | [], _ => none
  | x :: l, r => if x.r = r then some x else lookC l r
def atC (l : List CharD) (r : Int) : CharD := (lookC l r).getD noC
def clsC (rest : Int) (l : List CharD) (r : Int) : Int := match lookC l r with | some x => x.c | none => rest
/-- a list of characters in memory, whatever its spare room -/
def ReadsC (w : World) (a : Option Addr) (l : List CharD) : Prop := ∀ (k : Nat) x, l[k]? = some x → ∃ b off, a = some ⟨b, off, none⟩ ∧ ∀ (j : Nat) v, (charC x)[j]? = some v → w.cell? ⟨b, off + k * 7 + j, none⟩ = some v
theorem ReadsC.below {w W : World} {a : Option Addr} {l : List CharD} (h : ReadsC w a l) (hb : Below w.heap.size w W) : ReadsC W a l := by
  intro k x hx
  obtain ⟨b, off, e, hc⟩ := h k x hx
  exact ⟨b, off, e, fun j v hj => (hb.cell (p := ⟨b, off + k * 7 + j, none⟩) (World.block_lt_of_cell? w _ (hc j v hj))).trans (hc j v hj)⟩
theorem flat7 : ∀ (l : List CharD) (k j : Nat) (x : CharD), l[k]? = some x → j < 7 → (l.flatMap charC)[k * 7 + j]? = (charC x)[j]? := by
  intro l
  induction l with
  | nil => intro k j x h; simp at h
  | cons y l ih =>
    intro k j x h hj
    rw [List.flatMap_cons]
    have hl : (charC y).length = 7 := rfl
    cases k with
    | zero =>
      have : y = x := by simpa using h
      subst this
      rw [List.getElem?_append_left (by omega), Nat.zero_mul, Nat.zero_add]
    | succ k =>
      rw [List.getElem?_append_right (by omega), hl, show (k + 1) * 7 + j - 7 = k * 7 + j by omega]
      exact ih k j x (by simpa using h) hj
theorem Blk.readsC {w : World} {g : Nat} {l : List CharD} {T : TypeId} (h : Blk w g (l.flatMap charC) T) : ReadsC w (some ⟨g, 0, none⟩) l := by
  intro k x hx
  refine ⟨g, 0, rfl, fun j v hj => ?_⟩
  have hj7 : j < 7 := by have := (List.getElem?_eq_some_iff.1 hj).1; exact this
  rw [Nat.zero_add]
  exact h.cell ((flat7 l k j x hx hj7).trans hj)
def propsV (rest : Int) (a : Option Addr) (n c : Nat) : Value := .agg #[.int .u8 rest, .slice a n c]
theorem look_drop {l : List CharD} {k : Nat} {x : CharD} (hx : l[k]? = some x) (r : Int) : lookC (l.drop k) r = if x.r = r then some x else lookC (l.drop (k + 1)) r := by
  obtain ⟨hk, e⟩ := List.getElem?_eq_some_iff.1 hx
  rw [List.drop_eq_getElem_cons hk, e, lookC]

theorem at_results {tmps : Array Value} {w : World} {b : Nat} {x : CharD} {k : Bool} (h2 : tmps.getD 4 undef = .pointer (some ⟨b, 0, none⟩)) (h3 : tmps.getD 5 undef = .bool k) (h : Blk w b (charC x) 76) : (results Try.f53 tmps).run Try.prog w = .ok (.tuple #[charV x, .bool k]) w := by
  have c0 := h.cell (j := 0) rfl
  have c1 := h.cell (j := 1) rfl
  have c2 := h.cell (j := 2) rfl
  have c3 := h.cell (j := 3) rfl
  have c4 := h.cell (j := 4) rfl
  have c5 := h.cell (j := 5) rfl
  have c6 := h.cell (j := 6) rfl
  have h2' : tmps[4]?.getD undef = .pointer (some ⟨b, 0, none⟩) := by simpa using h2
  have h3' : tmps[5]?.getD undef = .bool k := by simpa using h3
  simp [results, Try.results53, go_sem, h2', h3', c0, c1, c2, c3, c4, c5, c6, charV]
/-- a block's seven cells written anew -/
def put7 (X : World) (b : Nat) (x : CharD) : World := ((((((X.setCell ⟨b, 0, none⟩ (.int .i32 x.r)).setCell ⟨b, 1, none⟩ (.int .u8 x.c)).setCell ⟨b, 2, none⟩ (.int .i32 x.o)).setCell ⟨b, 3, none⟩ (.int .u8 x.s)).setCell ⟨b, 4, none⟩ (.int .i32 x.t)).setCell ⟨b, 5, none⟩ (.int .i32 x.m)).setCell ⟨b, 6, none⟩ (.bool x.b)
theorem blk_put7 {X : World} {b : Nat} (h : Blk X b (charC noC) 76) (x : CharD) : Blk (put7 X b x) b (charC x) 76 :=
  ((((((h.set (l' := [.int .i32 x.r, .int .u8 0, .int .i32 0, .int .u8 0, .int .i32 0, .int .i32 0, .bool false]) 0 _ rfl).set (l' := [.int .i32 x.r, .int .u8 x.c, .int .i32 0, .int .u8 0, .int .i32 0, .int .i32 0, .bool false]) 1 _ rfl).set (l' := [.int .i32 x.r, .int .u8 x.c, .int .i32 x.o, .int .u8 0, .int .i32 0, .int .i32 0, .bool false]) 2 _ rfl).set (l' := [.int .i32 x.r, .int .u8 x.c, .int .i32 x.o, .int .u8 x.s, .int .i32 0, .int .i32 0, .bool false]) 3 _ rfl).set (l' := [.int .i32 x.r, .int .u8 x.c, .int .i32 x.o, .int .u8 x.s, .int .i32 x.t, .int .i32 0, .bool false]) 4 _ rfl).set (l' := [.int .i32 x.r, .int .u8 x.c, .int .i32 x.o, .int .u8 x.s, .int .i32 x.t, .int .i32 x.m, .bool false]) 5 _ rfl).set 6 _ rfl
theorem below_put7 {w X : World} {B b : Nat} (h : Below B w X) (hb : B ≤ b) (x : CharD) : Below B w (put7 X b x) :=
  ((((((h.setCell (by exact hb) _).setCell (by exact hb) _).setCell (by exact hb) _).setCell (by exact hb) _).setCell (by exact hb) _).setCell (by exact hb) _).setCell (by exact hb) _
theorem at_end {tmps : Array Value} {w X : World} {b : Nat} {x : CharD} {k : Bool} {R : Ending → World → Prop} (h2 : tmps.getD 4 undef = .pointer (some ⟨b, 0, none⟩)) (h3 : tmps.getD 5 undef = .bool k) (h : Blk X b (charC noC) 76) (hb : Below w.heap.size w X) (hwb : w.heap.size ≤ b)
    (hR : ∀ W', Below w.heap.size w W' → R (.returned (.tuple #[charV x, .bool k])) W') : bodyPost Try.prog Try.f53 R .ret { tmps, defers := [] } (((((((X.setCell ⟨b, 0, none⟩ (.int .i32 x.r)).setCell ⟨b, 1, none⟩ (.int .u8 x.c)).setCell ⟨b, 2, none⟩ (.int .i32 x.o)).setCell ⟨b, 3, none⟩ (.int .u8 x.s)).setCell ⟨b, 4, none⟩ (.int .i32 x.t)).setCell ⟨b, 5, none⟩ (.int .i32 x.m)).setCell ⟨b, 6, none⟩ (.bool x.b)) :=
  bodyPost_ret (at_results h2 h3 (blk_put7 h x)) rfl (hR _ (below_put7 hb hwb x))

theorem at_any (rest : Int) (a : Option Addr) (n c : Nat) (l : List CharD) (r : Int) (w : World) (hl : l.length = n) (h : ReadsC w a l) (hn : n ≤ 1099511627776) :
    Calls Try.prog 53 #[propsV rest a n c, .int .i32 r] w fun e w' => e = .returned (.tuple #[charV (atC l r), .bool (lookC l r).isSome]) ∧ Below w.heap.size w w' := by
  have HA := hide h
  have HLEN := hide hl
  clear h hl
  unfold propsV
  obtain ⟨W2, hW2⟩ : ∃ W2, (w.alloc (.cells #[.int .u8 rest, .slice a n c] 25)).alloc (.cells #[.int .i32 0, .int .u8 0, .int .i32 0, .int .u8 0, .int .i32 0, .int .i32 0, .bool false] 76) = W2 := ⟨_, rfl⟩
  have hb2 : Below w.heap.size w W2 := by rw [← hW2]; exact ((Below.refl _ w).alloc (Nat.le_refl _) _).alloc (by simp) _
  have b0 : Blk W2 w.heap.size [.int .u8 rest, .slice a n c] 25 := by
    rw [← hW2]; exact (Blk.new w [.int .u8 rest, .slice a n c] _).alloc _
  have b1 : Blk W2 (w.heap.size + 1) (charC noC) 76 := by
    show Blk W2 (w.heap.size + 1) [.int .i32 0, .int .u8 0, .int .i32 0, .int .u8 0, .int .i32 0, .int .i32 0, .bool false] 76
    rw [← hW2]; simpa using Blk.new (w.alloc (.cells #[.int .u8 rest, .slice a n c] 25)) [.int .i32 0, .int .u8 0, .int .i32 0, .int .u8 0, .int .i32 0, .int .i32 0, .bool false] 76
  have e1 := b0.cell (j := 1) rfl
  have z0 := b1.cell (j := 0) rfl
  have z1 := b1.cell (j := 1) rfl
  have z2 := b1.cell (j := 2) rfl
  have z3 := b1.cell (j := 3) rfl
  have z4 := b1.cell (j := 4) rfl
  have z5 := b1.cell (j := 5) rfl
  have z6 := b1.cell (j := 6) rfl
  have y0 := b1.frozen 0
  have y1 := b1.frozen 1
  have y2 := b1.frozen 2
  have y3 := b1.frozen 3
  have y4 := b1.frozen 4
  have y5 := b1.frozen 5
  have y6 := b1.frozen 6
  simp only [noC] at z0 z1 z2 z3 z4 z5 z6
  have HB1 := hide b1
  clear b0 b1
  go_enter Try.func53, Try.ntmps53
  go_wp2
  go_loopw [6] (fun v6 wr => ∃ k : Nat, k ≤ n ∧ v6 = .int .i64 k ∧ wr = W2 ∧ Hid (lookC (l.drop k) r = lookC l r)) (fun v6 _ => n - (intOf v6).toNat)
  case atStart => exact ⟨0, Nat.zero_le _, rfl, rfl, by show _ = _; simp⟩
  case round =>
    obtain ⟨k, hk, rfl, rfl, HK⟩ := hrel
    by_cases hlt : k < n
    · obtain ⟨x, hx⟩ : ∃ x, l[k]? = some x := ⟨_, List.getElem?_eq_getElem (by rw [unhide HLEN]; exact hlt)⟩
      obtain ⟨b, off, rfl, hc⟩ := (unhide HA).below hb2 k x hx
      have hst := look_drop hx r
      have c0 := hc 0 _ rfl
      rw [Nat.add_zero] at c0
      by_cases hr : x.r = r
      · have HR : Hid (charV (atC l r) = charV x ∧ (lookC l r).isSome = true) := by
          show _ ∧ _
          rw [if_pos hr, unhide HK] at hst
          unfold atC
          rw [hst]; exact ⟨rfl, rfl⟩
        have c1 := hc 1 _ rfl
        have c2 := hc 2 _ rfl
        have c3 := hc 3 _ rfl
        have c4 := hc 4 _ rfl
        have c5 := hc 5 _ rfl
        have c6 := hc 6 _ rfl
        have hq : (x.r == r) = true := by simpa using hr
        clear hc hst hq
        subst hr
        have hq : (x.r == x.r) = true := by simp
        go_wp2
        exact at_end (x := x) rfl rfl (unhide HB1) hb2 (by omega) (fun W' hW' => ⟨by rw [(unhide HR).1, (unhide HR).2], hW'⟩)
      · have HK2 : Hid (lookC (l.drop (k + 1)) r = lookC l r) := by
          show _ = _
          rw [if_neg hr] at hst
          rw [← hst]; exact unhide HK
        have hq : (x.r == r) = false := by simpa using hr
        clear hc hst
        go_wp2
        go_roundw
        case rel => exact ⟨k + 1, by omega, by go_num, trivial, HK2⟩
        case measure => simp [intOf]; omega
    · have HR : Hid (charV (atC l r) = charV noC ∧ (lookC l r).isSome = false) := by
        show _ ∧ _
        have : lookC l r = none := by rw [← unhide HK, List.drop_eq_nil_of_le (by rw [unhide HLEN]; omega)]; rfl
        unfold atC
        rw [this]; exact ⟨rfl, rfl⟩
      go_wp2
      exact at_end (x := noC) rfl rfl (unhide HB1) hb2 (by omega) (fun W' hW' => ⟨by rw [(unhide HR).1, (unhide HR).2], hW'⟩)
theorem class_any (rest : Int) (a : Option Addr) (n c : Nat) (l : List CharD) (r : Int) (w : World) (hl : l.length = n) (h : ReadsC w a l) (hn : n ≤ 1099511627776) :
    Calls Try.prog 39 #[propsV rest a n c, .int .i32 r] w fun e w' => e = .returned (.int .u8 (clsC rest l r)) ∧ Below w.heap.size w w' := by
  have HAT := hide (fun (w' : World) (hb : Below w.heap.size w w') => at_any rest a n c l r w' hl (h.below hb) hn)
  have hV : clsC rest l r = match lookC l r with | some x => x.c | none => rest := rfl
  clear h hl
  unfold propsV at *
  cases hk : lookC l r with
  | none =>
    have hA : atC l r = noC := by unfold atC; rw [hk]; rfl
    rw [hk] at HAT hV
    rw [hA] at HAT
    rw [hV]
    clear hV hA hk
    have HBX := hide (fun (w' : World) (hb : Below (w.alloc (.cells #[.int .u8 rest, .slice a n c] 25)).heap.size (w.alloc (.cells #[.int .u8 rest, .slice a n c] 25)) w') => (((Blk.new w [.int .u8 rest, .slice a n c] 25).below hb).alloc (.cells #[.int .i32 0, .int .u8 0, .int .i32 0, .int .u8 0, .int .i32 0, .int .i32 0, .bool false] 76)).cell (j := 0) rfl)
    go_enter Try.func39, Try.ntmps39
    go_wp2_with (go_at_call 53; refine (unhide HAT _ ((Below.refl _ _).alloc (Nat.le_refl _) _)).mono ?_; rintro e w' ⟨rfl, hb⟩; dsimp only [charV, noC, Option.isSome]; have c0 := unhide HBX w' hb; have HB := hide hb; clear hb)
    go_ret
    exact ⟨rfl, by have hb := unhide HB; exact (below_box hb).trans (((Below.refl _ _).alloc (Nat.le_refl _) _).mono (below_box hb).size)⟩
  | some x =>
    have hA : atC l r = x := by unfold atC; rw [hk]; rfl
    rw [hk] at HAT hV
    rw [hA] at HAT
    rw [hV]
    clear hV hA hk
    go_enter Try.func39, Try.ntmps39
    go_wp2_with (go_at_call 53; refine (unhide HAT _ ((Below.refl _ _).alloc (Nat.le_refl _) _)).mono ?_; rintro e w' ⟨rfl, hb⟩; dsimp only [charV, Option.isSome]; have HB := hide hb; clear hb)
    go_ret
    exact ⟨rfl, by have hb := unhide HB; exact (below_box hb).trans (((Below.refl _ _).alloc (Nat.le_refl _) _).mono (below_box hb).size)⟩
end Go.Proofs.Ytkckkchnmgidgaa
