/-
  The rows of lines, as mathematics; memory that stays while rows are told.
-/
import Derived.Test.YthjnkagepooeiaaGreatDoorRwX
import Derived.Test.YthjnkagepooeiaaGreatDoorRwY
import Derived.Test.YthjnkagepooeiaaGreatDoorSeq4
namespace Go.Proofs.YthjnkagepooeiaaGreatDoor
open Go.RowKit Go.PlainAid Go.Lib Go.PHexM Go.Shelf Go.Seq4
set_option linter.unusedVariables false
set_option linter.unusedSimpArgs false

def heldL (st : WalkD) : LineD := match st.held with | some x => x.1 | none => zeroD
def heldRow (st : WalkD) : RowD := match st.held with | some x => x.2 | none => zeroR
def heldK (st : WalkD) : Int := match st.held with | some _ => 1 | none => 0
/-- what each of the four steps says of a line -/
def stepE (st : WalkD) (d : LineD) : Nat → Int
  | 0 => (scanR d).2
  | 1 => nameE (heldK st == 1) (whichR d == 2) ((plainR d).name == (heldRow st).name)
  | 2 => if (plainR d).first ≤ st.above then 62 else 0
  | _ => if whichR d = 2 ∧ d.fields.drop 2 ≠ (heldL st).fields.drop 2 then 67 else 0
/-- why a line is refused; 0: it is not -/
def askE (st : WalkD) (d : LineD) : Int :=
  if stepE st d 0 ≠ 0 then stepE st d 0 else if stepE st d 1 ≠ 0 then stepE st d 1 else if stepE st d 2 ≠ 0 then stepE st d 2 else stepE st d 3
/-- what is told at a line, and how far the walk is behind it -/
def stepR (st : WalkD) (d : LineD) : List (RowD × Int) × WalkD :=
  if d.kind = 0 ∨ d.kind = 3 then ([], st) else
  if askE st d ≠ 0 then ([({ zeroR with line := d.no }, askE st d)], st) else
  if whichR d = 1 then ([], ⟨(plainR d).first, some (d, plainR d)⟩) else
  if whichR d = 2 then ([({ heldRow st with last := (plainR d).last }, 0)], ⟨(plainR d).first, none⟩) else
  ([(plainR d, 0)], ⟨(plainR d).first, st.held⟩)
def lastR (st : WalkD) : List (RowD × Int) := match st.held with | some x => [({ zeroR with line := x.1.no }, 61)] | none => []
def eachR : WalkD → List LineD → List (RowD × Int)
  | st, [] => lastR st
  | st, d :: ds => (stepR st d).1 ++ eachR (stepR st d).2 ds
def startW : WalkD := ⟨-1, none⟩

/-- the cells of the first N blocks are as they were -/
def KeptC (N : Nat) (w0 W : World) : Prop := ∀ k (o : Obj), k < N → o.isCells = true → w0.heap[k]? = some o → W.heap[k]? = some o
theorem KeptC.below {N : Nat} {w0 V W : World} (h : KeptC N w0 V) (hb : Below V.heap.size V W) : KeptC N w0 W := fun k o hk ho hx => by
  have := h k o hk ho hx
  exact (hb.block k (Array.getElem?_eq_some_iff.1 this).1).trans this
theorem KeptC.but {N b : Nat} {w0 V W : World} (h : KeptC N w0 V) (hb : But b V W) (hN : N ≤ b) : KeptC N w0 W := fun k o hk ho hx => by
  have := h k o hk ho hx
  exact (hb.block k (Array.getElem?_eq_some_iff.1 this).1 (by omega)).trans this
theorem cell_cells {w : World} {g o : Nat} {v : Value} (h : w.cell? ⟨g, o, none⟩ = some v) : ∃ cs T fz, w.heap[g]? = some (.cells cs T fz) := by
  simp only [World.cell?] at h
  split at h
  · rename_i cs T fz hh; exact ⟨_, _, _, hh⟩
  · cases h
theorem KeptC.cell {N : Nat} {w0 W : World} (h : KeptC N w0 W) {g o : Nat} {v : Value} (hc : w0.cell? ⟨g, o, none⟩ = some v) (hg : g < N) : W.cell? ⟨g, o, none⟩ = some v := by
  obtain ⟨cs, T, fz, hh⟩ := cell_cells hc
  have := h g _ hg rfl hh
  simp only [World.cell?, hh, this] at hc ⊢
  exact hc
theorem TxG.kept {N : Nat} {w0 W : World} {a : Option Addr} {l : List (List UInt8)} (h : TxG w0 a l) (hk : KeptC N w0 W) (hN : N = w0.heap.size) : TxG W a l := fun i x hx => by
  obtain ⟨g, off, rfl, hc⟩ := h i x hx
  exact ⟨g, off, rfl, hk.cell hc (by rw [hN]; exact World.block_lt_of_cell? _ _ hc)⟩
theorem Glob.kept {N : Nat} {w0 W : World} (h : Glob w0) (hk : KeptC N w0 W) (hN : N = w0.heap.size) (hs : w0.heap.size ≤ W.heap.size) : Glob W := by
  subst hN
  have hc : ∀ g v, w0.cell? ⟨g, 0, none⟩ = some v → W.cell? ⟨g, 0, none⟩ = some v := fun g v hv => hk.cell hv (World.block_lt_of_cell? _ _ hv)
  obtain ⟨e1, h1, k1⟩ := h.syn
  obtain ⟨e2, h2, k2⟩ := h.rng
  obtain ⟨m, h3⟩ := h.max
  refine ⟨Nat.le_trans h.size hs, ⟨e1, hc _ _ h1, k1⟩, ⟨e2, hc _ _ h2, k2⟩, ⟨m, hc _ _ h3⟩, ?_, hc _ _ h.err⟩
  have ht := h.tab
  have hn : Tryz.prog.globalNamed "internal/strconv.uint64pow10" = some 3 := by kernel_rfl
  unfold Lib.TabIs World.var? at ht ⊢
  rw [hn] at ht ⊢
  simp only [Option.bind_some] at ht ⊢
  cases hh : w0.heap[3]? with
  | none => rw [hh] at ht; cases ht
  | some o =>
    cases o with
    | cells cs T fz =>
      rw [hk _ _ (Array.getElem?_eq_some_iff.1 hh).1 rfl hh]
      rw [hh] at ht
      exact ht
    | _ => rw [hh] at ht; cases ht

/-- what stores into a block leave, and what grows, another content of that block leaves -/
theorem calm_but {J : World → Prop} {b : Nat} {T : TypeId} (hJ : ∀ W o v, J W → J (W.setCell ⟨b, o, none⟩ v)) (hO : ∀ U W, Below U.heap.size U W → J U → J W) {V W : World} {l l' : List Value} (hl : Blk V b l T) (hl' : Blk W b l' T) (hlen : l.length = l'.length) (hb : But b V W) (h0 : J V) : J W := by
  have key : ∀ k, k ≤ l.length → ∃ U, J U ∧ Blk U b (l'.take k ++ l.drop k) T ∧ U.os = V.os ∧ U.tape = V.tape ∧ U.output = V.output ∧ U.heap.size = V.heap.size ∧ (∀ i, i ≠ b → U.heap[i]? = V.heap[i]?) := by
    intro k
    induction k with
    | zero => intro _; exact ⟨V, h0, by simpa using hl, rfl, rfl, rfl, rfl, fun _ _ => rfl⟩
    | succ k ih =>
      intro hk
      obtain ⟨U, h1, h2, h3, h4, h5, h6, h7⟩ := ih (by omega)
      obtain ⟨v, hv⟩ : ∃ v, l'[k]? = some v := ⟨_, List.getElem?_eq_getElem (by omega)⟩
      refine ⟨U.setCell ⟨b, k, none⟩ v, hJ _ _ _ h1, h2.set k v ?_, h3, h4, h5, by simpa using h6, fun i hi => (Below.heap_setCell _ _ _ _ hi).trans (h7 i hi)⟩
      have e1 : (l'.take k).length = k := by rw [List.length_take]; omega
      have e2 : (l.drop k).set 0 v = v :: l.drop (k + 1) := by rw [List.drop_eq_getElem_cons (show k < l.length by omega)]; rfl
      rw [List.set_append_right _ _ (by omega), e1, Nat.sub_self, e2, List.take_add_one, hv]
      simp
  obtain ⟨U, h1, h2, h3, h4, h5, h6, h7⟩ := key l.length (Nat.le_refl _)
  rw [List.drop_length, List.append_nil, hlen, List.take_length] at h2
  refine hO U W ⟨hb.os.trans h3.symm, hb.tape.trans h4.symm, hb.output.trans h5.symm, by rw [h6]; exact hb.size, fun i hi => ?_⟩ h1
  by_cases hib : i = b
  · subst hib
    exact (show W.heap[i]? = _ from hl').trans (show U.heap[i]? = _ from h2).symm
  · exact (hb.block i (by omega) hib).trans (h7 i hib).symm
theorem own_grow {β : Type} {B : Nat} {J : β → World → Prop} (hJ : OwnFrom B J) (s : β) (U W : World) (hb : Below U.heap.size U W) (h : J s U) : J s W :=
  hJ s U W none h ⟨hb.os, hb.tape, hb.output, hb.size, fun k hk _ => hb.block k hk⟩ (fun r e => by cases e)

/-- the steps, in their order -/
def stepF : List Nat := [69, 70, 71, 72]
def stepsC (wb : Nat) : List Value := [.func (.func 69) #[.pointer (some ⟨wb, 0, none⟩)] #[], .func (.func 70) #[.pointer (some ⟨wb, 0, none⟩)] #[], .func (.func 71) #[.pointer (some ⟨wb, 0, none⟩)] #[], .func (.func 72) #[.pointer (some ⟨wb, 0, none⟩)] #[]]
theorem stepsC_at {wb j F : Nat} (h : stepF[j]? = some F) : (stepsC wb)[j]? = some (.func (.func F) #[.pointer (some ⟨wb, 0, none⟩)] #[]) := by
  match j, h with
  | 0, h => cases h; rfl
  | 1, h => cases h; rfl
  | 2, h => cases h; rfl
  | 3, h => cases h; rfl
  | j + 4, h => simp [stepF] at h
/-- the entry ahead of a step -/
def entJ (j : Nat) (d : LineD) (fv : Value) : List Value := if j = 0 then entC d fv zeroR 0 else entC d fv (plainR d) (whichR d)
/-- the First that waits, in memory -/
def Held (w : World) (st : WalkD) (fvh : Value) : Prop := match st.held with
  | none => fvh = .slice none 0 0
  | some x => x.1.fields.length = 15 ∧ ∃ a c, fvh = .slice a 15 c ∧ 15 ≤ c ∧ TxG w a x.1.fields
theorem Held.slice {w : World} {st : WalkD} {fvh : Value} (h : Held w st fvh) : ∃ x n c, fvh = .slice x n c := by
  unfold Held at h
  split at h
  · exact ⟨_, _, _, h⟩
  · obtain ⟨_, a, c, e, _⟩ := h; exact ⟨_, _, _, e⟩
theorem scan_fields {d : LineD} (h : (scanR d).2 = 0) : d.fields.length = 15 := by
  unfold scanR at h
  split at h
  · cases h
  · split at h
    · cases h
    · rename_i h'
      simp only [not_or, Decidable.not_not] at h'
      exact h'.2
theorem name_zero {st : WalkD} {d : LineD} (h : stepE st d 1 = 0) (h2 : whichR d = 2) : ∃ x, st.held = some x := by
  unfold stepE nameE at h
  rw [h2] at h
  cases hh : st.held with
  | none => simp [heldK, hh] at h
  | some x => exact ⟨x, rfl⟩

set_option maxRecDepth 10000 in
theorem step_any {j F : Nat} (hj : stepF[j]? = some F) (wb eb : Nat) (st : WalkD) (fvh : Value) (d : LineD) (fa : Option Addr) (fc : Nat) (w : World) (hg : Glob w) (hT : TxG w fa d.fields) (hs : ∀ x ∈ d.fields, x.length ≤ 1073741824) (hc : d.fields.length ≤ fc) (hh : Held w st fvh)
    (hw : Blk w wb (walkC st.above (heldL st) fvh (heldRow st) (heldK st)) 135) (he : Blk w eb (entJ j d (.slice fa d.fields.length fc)) 133) (hz : ∀ i, i < j → stepE st d i = 0) :
    Calls Tryz.prog F #[.pointer (some ⟨wb, 0, none⟩), .pointer (some ⟨eb, 0, none⟩)] w fun e w' => e = .returned (.int .i64 (stepE st d j)) ∧ Blk w' eb (entJ (j + 1) d (.slice fa d.fields.length fc)) 133 ∧ But eb w w' := by
  match j, hj with
  | 0, hj => cases hj; exact wscan_any wb eb d fa fc w hg hT hs he
  | 1, hj =>
    cases hj
    exact (askName_any wb eb st.above d (heldL st) _ fvh (plainR d) (heldRow st) (whichR d) (heldK st) w hw he).mono fun e w' ⟨h1, h2⟩ => ⟨h1, Blk.below he h2, But.of_below h2⟩
  | 2, hj =>
    cases hj
    exact (askRising_any wb eb st.above d (heldL st) _ fvh (plainR d) (heldRow st) (whichR d) (heldK st) w hw he).mono fun e w' ⟨h1, h2⟩ => ⟨h1, Blk.below he h2, But.of_below h2⟩
  | 3, hj =>
    cases hj
    have h0 := hz 0 (by omega)
    have h1 := hz 1 (by omega)
    have h15 := scan_fields h0
    obtain ⟨x, n, c, rfl⟩ := hh.slice
    refine (askPair_any wb eb st.above d (heldL st) fa x d.fields.length n fc c (plainR d) (heldRow st) (whichR d) (heldK st) w hw he fun h2 => ?_).mono fun e w' ⟨h1, h2⟩ => ⟨h1, Blk.below he h2, But.of_below h2⟩
    obtain ⟨y, hy⟩ := name_zero h1 h2
    unfold Held at hh
    simp only [hy] at hh
    obtain ⟨q1, a, c', e, q2, q3⟩ := hh
    injection e with e1 e2 e3
    subst e1; subst e2; subst e3
    have hL : heldL st = y.1 := by unfold heldL; rw [hy]
    rw [hL]
    exact ⟨h15, rfl, by omega, q2, h15, q1, hT, q3⟩
  | j + 4, hj => simp [stepF] at hj
theorem step_enters {j F : Nat} (hj : stepF[j]? = some F) : ∀ args w, (callFunc F args).run Tryz.prog w = .ok (.enter F args) w := by
  match j, hj with
  | 0, hj => cases hj; exact enters_of Tryz.func69 (by kernel_rfl) rfl
  | 1, hj => cases hj; exact enters_of Tryz.func70 (by kernel_rfl) rfl
  | 2, hj => cases hj; exact enters_of Tryz.func71 (by kernel_rfl) rfl
  | 3, hj => cases hj; exact enters_of Tryz.func72 (by kernel_rfl) rfl
  | j + 4, hj => simp [stepF] at hj
end Go.Proofs.YthjnkagepooeiaaGreatDoor
