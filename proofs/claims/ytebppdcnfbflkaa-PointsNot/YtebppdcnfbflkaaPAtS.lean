/-
  At and Size of a map.
-/
import Derived.Test.YtebppdcnfbflkaaPReachS
import Derived.Deep.LoopGhost
namespace Go.Proofs.Ytebppdcnfbflkaa.VS
open Go.RowKit Go.PlainAid Go.Lib Go.PRow Go.Shelf
set_option linter.unusedVariables false
set_option linter.unusedSimpArgs false

/-- what At answers -/
def atV (q : Option ByteArray) : Value := match q with | some v => .tuple #[Value.string v, .bool true] | none => .tuple #[Value.string ⟨#[]⟩, .bool false]

set_option maxHeartbeats 2000000 in
theorem at_some (b : Nat) (v : Value) (B : Nat) (ps : List (Pc ByteArray)) (o : OkP ps) (x : Int) (p : Pc ByteArray) (M' : List (Pc ByteArray)) (hM : midP ps x x = p :: M') (w : World) (h : IsMap w b v) (hr : RowP w B v ps) :
    Calls Try.prog 30 #[.pointer (some ⟨b, 0, none⟩), .int .i32 x] w fun e w' => e = .returned (.tuple #[Value.string p.val, .bool true]) ∧ Below w.heap.size w w' := by
  have HH := hide (held_map b v w h)
  have HMt := hide (meeting_any B v ps o x x (Int.le_refl x) w hr)
  obtain ⟨A, M, C, c⟩ := cut3 o (Int.le_refl x)
  rw [c.mid] at hM
  subst hM
  have eF := c.fr
  have eU := c.up
  have e := c.eq
  have hp : ps[frI ps x]? = some p := by rw [eF, e, List.append_assoc, List.getElem?_append_right (Nat.le_refl _)]; simp
  have hF : frI ps x < upI ps x := by rw [eF, eU]; simp
  have hU := upI_le ps x
  obtain ⟨a, cap, rfl, hc1, hc2, _, hg⟩ := hr.form
  obtain ⟨g, rfl, _, _, hgl, hcell⟩ := hg (by intro e; subst e; simp at hp)
  obtain ⟨c1, c2, c3⟩ := hcell _ _ hp
  have hmv : midV (.slice (some ⟨g, 0, none⟩) ps.length cap) (frI ps x) (upI ps x) = .slice (some ⟨g, frI ps x * 3, none⟩) (upI ps x - frI ps x) (cap - frI ps x) := by
    unfold midV
    simp only
    rw [if_neg (by omega)]
    simp [Addr.add_lit]
  rw [hmv] at HMt
  have KK := hide (fun V (hV : Below w.heap.size w V) => (⟨(hV.cell hgl).trans c1, (hV.cell hgl).trans c2, (hV.cell hgl).trans c3⟩ : V.cell? ⟨g, frI ps x * 3, none⟩ = some (.int .i32 p.lo) ∧ V.cell? ⟨g, frI ps x * 3 + 1, none⟩ = some (.int .i32 p.hi) ∧ V.cell? ⟨g, frI ps x * 3 + 2, none⟩ = some (Value.string p.val)))
  clear hmv hcell hg c1 c2 c3 hp c e eF eU hr h
  obtain ⟨pl, ph, pv⟩ := p
  simp only at KK
  generalize frI ps x = F at *
  generalize hD : upI ps x - F = D at *
  have hD0 : 0 < D := by omega
  have hDi : (0 : Int) < (D : Int) := by omega
  clear hD hU hF
  go_enter Try.func30, Try.ntmps30
  go_wp2_with (first | (go_at_call 71; refine (unhide HH).mono ?_; rintro e w1 ⟨rfl, rfl⟩) | (go_at_call 69; refine (unhide HMt).mono ?_; rintro e w2 ⟨rfl, hb⟩))
  obtain ⟨d1, d2, d3⟩ := unhide KK _ hb
  go_loopg [16] 1 (fun kx s16 wr => s16 = .int .i64 0 ∧ wr = w2)
  case atStart => exact ⟨rfl, rfl⟩
  case round =>
    obtain ⟨rfl, rfl⟩ := hrel
    go_wp2
    go_ret2
    exact ⟨rfl, (hb.alloc (by exact hb.size) _)⟩

set_option maxHeartbeats 2000000 in
theorem at_none (b : Nat) (v : Value) (B : Nat) (ps : List (Pc ByteArray)) (o : OkP ps) (x : Int) (hM : midP ps x x = []) (w : World) (h : IsMap w b v) (hr : RowP w B v ps) :
    Calls Try.prog 30 #[.pointer (some ⟨b, 0, none⟩), .int .i32 x] w fun e w' => e = .returned (.tuple #[Value.string ⟨#[]⟩, .bool false]) ∧ Below w.heap.size w w' := by
  have HH := hide (held_map b v w h)
  have HMt := hide (meeting_any B v ps o x x (Int.le_refl x) w hr)
  obtain ⟨A, M, C, c⟩ := cut3 o (Int.le_refl x)
  rw [c.mid] at hM
  subst hM
  have hF : upI ps x - frI ps x = 0 := by rw [c.fr, c.up]; simp
  obtain ⟨a, cap, rfl, hc1, hc2, _, hg⟩ := hr.form
  obtain ⟨a', c', hmv⟩ : ∃ a' c', midV (.slice a ps.length cap) (frI ps x) (upI ps x) = .slice a' 0 c' := by
    unfold midV
    simp only
    rw [hF]
    split <;> exact ⟨_, _, rfl⟩
  rw [hmv] at HMt
  clear hmv hg c hr h hF
  go_enter Try.func30, Try.ntmps30
  go_wp2_with (first | (go_at_call 71; refine (unhide HH).mono ?_; rintro e w1 ⟨rfl, rfl⟩) | (go_at_call 69; refine (unhide HMt).mono ?_; rintro e w2 ⟨rfl, hb⟩))
  go_loopg [16] 1 (fun kx s16 wr => s16 = .int .i64 0 ∧ wr = w2)
  case atStart => exact ⟨rfl, rfl⟩
  case round =>
    obtain ⟨rfl, rfl⟩ := hrel
    go_wp2
    go_ret2
    exact ⟨rfl, hb⟩

theorem at_any (b : Nat) (v : Value) (B : Nat) (ps : List (Pc ByteArray)) (o : OkP ps) (x : Int) (w : World) (h : IsMap w b v) (hr : RowP w B v ps) :
    Calls Try.prog 30 #[.pointer (some ⟨b, 0, none⟩), .int .i32 x] w fun e w' => e = .returned (atV (atP ps x)) ∧ Below w.heap.size w w' := by
  rw [at_mid o x]
  cases hM : midP ps x x with
  | nil => exact at_none b v B ps o x hM w h hr
  | cons p M' => exact at_some b v B ps o x p M' hM w h hr
end Go.Proofs.Ytebppdcnfbflkaa.VS
