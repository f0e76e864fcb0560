/-
  Read of package classes, for every text.
-/
import Derived.Test.YthgaadjkjnibaaaGreatDoorClR2
namespace Go.Proofs.YthgaadjkjnibaaaGreatDoor
open Go.RowKit Go.PlainAid Go.Lib Go.PHexM Go.Shelf Go.PRow
set_option linter.unusedVariables false
set_option linter.unusedSimpArgs false

theorem lineCells_at7 {ps : List (LineD × Value)} {i : Nat} {p : LineD × Value} (h : ps[i]? = some p) (j : Nat) (hj : j < 5) : (lineCells ps)[i * 5 + j]? = [Value.int .i64 p.1.no, .int .u8 p.1.kind, .string (S p.1.name), p.2, .string (S p.1.note)][j]? := by
  induction ps generalizing i with
  | nil => simp at h
  | cons a ps ih =>
    have e : lineCells (a :: ps) = [Value.int .i64 a.1.no, .int .u8 a.1.kind, .string (S a.1.name), a.2, .string (S a.1.note)] ++ lineCells ps := rfl
    rw [e]
    cases i with
    | zero =>
      simp at h; subst h
      rw [List.getElem?_append_left (by simp; omega)]
      simp
    | succ i =>
      rw [List.getElem?_append_right (by simp; omega), ← ih (by simpa using h)]
      congr 1
      simp
      omega
theorem texts_txT {w : World} {base : Nat} {v : Value} {l : List (List UInt8)} (h : TextsAt w base v l) : ∃ a c, v = .slice a l.length c ∧ l.length ≤ c ∧ TxT w a l := by
  rcases h.2 with ⟨rfl, h0⟩ | ⟨g, cap, cur, rfl, hb, hh, h3, h4, h5, h6⟩
  · exact ⟨none, 0, by rw [h0], by omega, fun i x hx => by rw [List.length_eq_zero_iff.1 h0] at hx; simp at hx⟩
  · refine ⟨_, cap, rfl, h3, fun i x hx => ⟨g, 0, rfl, ?_⟩⟩
    have e1 : (strVs (l.map S))[i]? = some (.string (S x)) := by simp [strVs, hx]
    rw [← h6, List.getElem?_take] at e1
    split at e1
    · rw [Nat.zero_add]; simpa [World.cell?, hh] using e1
    · cases e1
theorem rowL_line7 {w : World} {base : Nat} {va : Value} {ps : List (LineD × Value)} (h : RowL w base va ps) : ∃ a c, va = .slice a ps.length c ∧ ∀ (i : Nat) (p : LineD × Value), ps[i]? = some p → ∃ g fa fc, a = some ⟨g, 0, none⟩ ∧ p.2 = .slice fa p.1.fields.length fc ∧ TxT w fa p.1.fields ∧
    ∀ j u, [Value.int .i64 p.1.no, .int .u8 p.1.kind, .string (S p.1.name), p.2, .string (S p.1.note)][j]? = some u → w.cell? ⟨g, i * 5 + j, none⟩ = some u := by
  rcases h.1.2 with ⟨rfl, h0⟩ | ⟨g, cap, cur, rfl, hb, hh, h3, h4, h5, h6⟩
  · exact ⟨none, 0, by rw [h0], fun i p hp => by rw [List.length_eq_zero_iff.1 h0] at hp; simp at hp⟩
  · refine ⟨_, cap, rfl, fun i p hp => ?_⟩
    obtain ⟨fa, fc, e, _, ht⟩ := texts_txT (h.2 p (List.mem_of_getElem? hp))
    refine ⟨g, fa, fc, rfl, e, ht, fun j u hu => ?_⟩
    have hl := (List.getElem?_eq_some_iff.1 hp).1
    have hj : j < 5 := by have := (List.getElem?_eq_some_iff.1 hu).1; simpa using this
    have e := lineCells_at7 hp j hj
    rw [hu, ← h6, List.getElem?_take, if_pos (by omega)] at e
    simpa [World.cell?, hh] using e
def FaultAt (w : World) (fb : Nat) (file : ByteArray) (no code : Int) : Prop := w.heap[fb]? = some (.cells #[.string file, .int .i64 no, .int .i64 code] 58 (0, 0))

set_option maxRecDepth 100000 in
theorem empty_any (w : World) :
    Calls Tryz.prog 14 #[] w fun e w' => ∃ bt bN bC, e = .returned (.pointer (some ⟨bt, 0, none⟩)) ∧ (∃ vN vC vM, TabP w' w.heap.size bt bN bC vN vC vM emptyT) ∧ Below w.heap.size w w' := by
  obtain ⟨W1, hW1⟩ : ∃ W1, w.alloc (.cells #[.bool true, .slice none 0 0] 147) = W1 := ⟨_, rfl⟩
  obtain ⟨W2, hW2⟩ : ∃ W2, W1.alloc (.cells #[.bool true, .slice none 0 0] 126) = W2 := ⟨_, rfl⟩
  obtain ⟨W3, hW3⟩ : ∃ W3, W2.alloc (.cells #[.pointer (some ⟨w.heap.size, 0, none⟩), .pointer (some ⟨W1.heap.size, 0, none⟩), .slice none 0 0] 66) = W3 := ⟨_, rfl⟩
  have s1 : W1.heap.size = w.heap.size + 1 := by rw [← hW1]; simp
  have s2 : W2.heap.size = w.heap.size + 2 := by rw [← hW2]; simp; omega
  have b1 : Below w.heap.size w W1 := by rw [← hW1]; exact (Below.refl _ w).alloc (Nat.le_refl _) _
  have b2 : Below W1.heap.size W1 W2 := by rw [← hW2]; exact (Below.refl _ W1).alloc (Nat.le_refl _) _
  have b3 : Below W2.heap.size W2 W3 := by rw [← hW3]; exact (Below.refl _ W2).alloc (Nat.le_refl _) _
  have hb3 : Below w.heap.size w W3 := (b1.trans (b2.mono (by omega))).trans (b3.mono (by omega))
  have k1 : W1.heap[w.heap.size]? = some (.cells #[.bool true, .slice none 0 0] 147 (0, 0)) := by rw [← hW1]; exact heap_alloc_new w _
  have k2 : W2.heap[W1.heap.size]? = some (.cells #[.bool true, .slice none 0 0] 126 (0, 0)) := by rw [← hW2]; exact heap_alloc_new W1 _
  have k3 : W3.heap[W2.heap.size]? = some (.cells #[.pointer (some ⟨w.heap.size, 0, none⟩), .pointer (some ⟨W1.heap.size, 0, none⟩), .slice none 0 0] 66 (0, 0)) := by rw [← hW3]; exact heap_alloc_new W2 _
  have m1 := ((b3.block _ (by omega)).trans ((b2.block _ (by omega)).trans k1))
  have m2 := ((b3.block _ (by omega)).trans k2)
  have hT : TabP W3 w.heap.size W2.heap.size w.heap.size W1.heap.size (.slice none 0 0) (.slice none 0 0) (.slice none 0 0) ⟨[], [], []⟩ :=
    ⟨k3, m1, RowV.nil _ _ _ _ _, m2, RowV.nil _ _ _ _ _, RowV.nil _ _ _ _ _, by omega, Nat.le_refl _, by omega, ⟨OkP.nil, OkP.nil⟩⟩
  have HLAY := hide (VC.lay_ok W1.heap.size (.slice none 0 0) w.heap.size [] OkP.nil 0 1114111 (by decide) 1 W3 m2 hb3.size (RowV.nil _ _ _ _ _))
  have HT := hide hT
  have HB := hide hb3
  have t1 : W3.cell? ⟨W2.heap.size, 1, none⟩ = some (.pointer (some ⟨W1.heap.size, 0, none⟩)) := cellH k3 rfl
  have eR : repP ([] : List (Pc Int)) 0 1114111 [⟨0, 1114111, 1⟩] = [⟨0, 1114111, 1⟩] := rfl
  rw [eR] at HLAY
  obtain ⟨Q, hQ⟩ : ∃ Q : Ending → World → Prop, (fun e w' => ∃ bt bN bC, e = .returned (.pointer (some ⟨bt, 0, none⟩)) ∧ (∃ vN vC vM, TabP w' w.heap.size bt bN bC vN vC vM emptyT) ∧ Below w.heap.size w w') = Q := ⟨_, rfl⟩
  rw [hQ]
  have FIN : Hid (∀ w' v', VC.RowP w' w.heap.size v' [⟨0, 1114111, 1⟩] → VC.Moved W3 w' W1.heap.size (.slice none 0 0) v' → Q (.returned (.pointer (some ⟨W2.heap.size, 0, none⟩))) w') := fun w' v' hr hm => by
    rw [← hQ]
    obtain ⟨h1, h2, h3⟩ := hT.lay hr hm empty_ok7.2 hb3.size
    exact ⟨_, _, _, rfl, ⟨_, _, _, h1⟩, hb3.trans h2⟩
  clear hQ hT hb3 b1 b2 b3 k1 k2 k3 m1 m2 s1 s2 eR
  go_enter Tryz.func14, Tryz.ntmps14
  go_wp2_with (first | (go_at_call 30; refine (VN.new_any _).mono ?_; rintro e w' ⟨rfl, rfl⟩; rw [hW1]) | (go_at_call 31; refine (VC.new_any _).mono ?_; rintro e w' ⟨rfl, rfl⟩; rw [hW2]) | (go_at_call 32; refine (unhide HLAY).mono ?_; rintro e w' ⟨rfl, v', hr, hm⟩))
  exact unhide FIN _ _ hr hm

theorem takes_any (bt : Nat) (w : World) :
    Calls Tryz.prog 15 #[.pointer (some ⟨bt, 0, none⟩)] w fun e w' => e = .returned (.slice (some ⟨w.heap.size, 0, none⟩) 4 4) ∧ w' = w.alloc (.cells #[.func (.func 33) #[.pointer (some ⟨bt, 0, none⟩)] #[], .func (.func 34) #[.pointer (some ⟨bt, 0, none⟩)] #[], .func (.func 35) #[.pointer (some ⟨bt, 0, none⟩)] #[], .func (.func 36) #[.pointer (some ⟨bt, 0, none⟩)] #[]] 55) := by
  have hmf : ∀ (fn : Fn) (first cap : Array Value) (w : World), (Instr.makeFunc fn first cap).run Tryz.prog w = .ok (.func fn first cap) w := fun _ _ _ _ => rfl
  go_enter Tryz.func15, Tryz.ntmps15
  go_wp2
  go_ret
  exact ⟨rfl, rfl⟩

/-- what a call of Read leaves -/
def ReadPT (file s : ByteArray) (w : World) (e : Ending) (w' : World) : Prop := Below w.heap.size w w' ∧
  (((tabS s).2 = none ∧ ∃ bt, e = .returned (.tuple #[.pointer (some ⟨bt, 0, none⟩), .nilIface]) ∧ TabAt w' w.heap.size bt (tabS s).1) ∨
   (∃ no code fb, (tabS s).2 = some (no, code) ∧ e = .returned (.tuple #[.pointer none, .iface 56 (.pointer (some ⟨fb, 0, none⟩))]) ∧ w.heap.size ≤ fb ∧ FaultAt w' fb file no code))
theorem ReadPT.fault {file s : ByteArray} {w w' : World} {fb : Nat} {no code : Int} (hb : Below w.heap.size w w') (h : (tabS s).2 = some (no, code)) (hf : w.heap.size ≤ fb) (hc : FaultAt w' fb file no code) : ReadPT file s w (.returned (.tuple #[.pointer none, .iface 56 (.pointer (some ⟨fb, 0, none⟩))])) w' :=
  ⟨hb, .inr ⟨no, code, fb, h, rfl, hf, hc⟩⟩
theorem TabP.base {W : World} {B B' bt bN bC : Nat} {vN vC vM : Value} {t : TabD} (h : TabP W B bt bN bC vN vC vM t) (hb : B' ≤ B) : TabP W B' bt bN bC vN vC vM t :=
  ⟨h.tab, h.mN, RowV.mono h.rN hb, h.mC, RowV.mono h.rC hb, RowV.mono h.rM hb, Nat.le_trans hb h.hbt, Nat.le_trans hb h.hbN, Nat.le_trans hb h.hbC, h.ok⟩
abbrev takesC (bt : Nat) : Array Value := #[.func (.func 33) #[.pointer (some ⟨bt, 0, none⟩)] #[], .func (.func 34) #[.pointer (some ⟨bt, 0, none⟩)] #[], .func (.func 35) #[.pointer (some ⟨bt, 0, none⟩)] #[], .func (.func 36) #[.pointer (some ⟨bt, 0, none⟩)] #[]]
theorem tell_ms7 : ∀ (ds : List LineD) (t : TabD), True := fun _ _ => trivial
end Go.Proofs.YthgaadjkjnibaaaGreatDoor
