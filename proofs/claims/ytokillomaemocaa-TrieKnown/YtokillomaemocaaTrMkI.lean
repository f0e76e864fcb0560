/-
  The maker: how it lies in memory, what it keeps; a block put so many times.
-/
import Derived.Test.YtokillomaemocaaTrHasI
import Derived.Test.YtokillomaemocaaTrNumW
namespace Go.Proofs.Ytokillomaemocaa.VI
open Go.RowKit Go.PlainAid Go.Lib Go.PRow Go.Maps Go.TrM
set_option linter.unusedVariables false
set_option linter.unusedSimpArgs false

/-- the blocks that are a maker's own -/
def Own (mk bn m : Nat) (v vl vb : Value) (i : Nat) : Prop := i = mk ∨ i = bn ∨ i = m ∨ blk v = some i ∨ blk vl = some i ∨ blk vb = some i
/-- what lay there and is none's own stays; what is owned was owned or is new -/
structure MakK (w w' : World) (o o' : Nat → Prop) : Prop where
  size : w.heap.size ≤ w'.heap.size
  keep : ∀ i, i < w.heap.size → ¬ o i → w'.heap[i]? = w.heap[i]?
  own : ∀ i, o' i → o i ∨ w.heap.size ≤ i
theorem MakK.refl (w : World) (o : Nat → Prop) : MakK w w o o := ⟨Nat.le_refl _, fun _ _ _ => rfl, fun _ h => .inl h⟩
theorem MakK.trans {a b c : World} {o p q : Nat → Prop} (h : MakK a b o p) (g : MakK b c p q) : MakK a c o q := by
  refine ⟨Nat.le_trans h.size g.size, fun i hi ho => ?_, fun i hq => ?_⟩
  · rw [g.keep i (Nat.lt_of_lt_of_le hi h.size) (fun hp => ?_), h.keep i hi ho]
    rcases h.own i hp with e | e
    · exact ho e
    · omega
  · rcases g.own i hq with e | e
    · exact h.own i e
    · exact .inr (Nat.le_trans h.size e)
theorem MakK.below {a b c : World} {o p : Nat → Prop} (h : MakK a b o p) (g : Below b.heap.size b c) : MakK a c o p := by
  refine ⟨Nat.le_trans h.size g.size, fun i hi ho => ?_, h.own⟩
  rw [g.block i (Nat.lt_of_lt_of_le hi h.size), h.keep i hi ho]
theorem MakK.after {a b c : World} {o p : Nat → Prop} (g : Below a.heap.size a b) (h : MakK b c o p) : MakK a c o p := by
  refine ⟨Nat.le_trans g.size h.size, fun i hi ho => ?_, fun i hp => ?_⟩
  · rw [h.keep i (Nat.lt_of_lt_of_le hi g.size) ho, g.block i hi]
  · rcases h.own i hp with e | e
    · exact .inl e
    · exact .inr (Nat.le_trans g.size e)
/-- a maker at mk: its blocks bs, the numbers ls of the places so far, the values xs of the block that is begun -/
structure MakAt (w : World) (B mk bn m : Nat) (v vl vb : Value) (bs : List (List El)) (ls : List Int) (xs : List El) : Prop where
  hk : w.heap[mk]? = some (.cells #[.pointer (some ⟨bn, 0, none⟩), vl, vb] 229 (0, 0))
  hn : NumAt w B bn m v bs
  hl : VW.RowE w B vl ls
  hb : RowE w B vb xs
  bB : B ≤ mk
  nv : ∀ g, blk v = some g → blk vb ≠ some g
theorem cell3 {w : World} {bn : Nat} {x y z : Value} {t : TypeId} (h : w.heap[bn]? = some (.cells #[x, y, z] t (0, 0))) : w.cell? ⟨bn, 0, none⟩ = some x ∧ w.cell? ⟨bn, 1, none⟩ = some y ∧ w.cell? ⟨bn, 2, none⟩ = some z := by
  refine ⟨?_, ?_, ?_⟩ <;> simp [World.cell?, h]
theorem set31 {w : World} {bn : Nat} {x y z u : Value} {t : TypeId} (h : w.heap[bn]? = some (.cells #[x, y, z] t (0, 0))) : (w.setCell ⟨bn, 1, none⟩ u).heap[bn]? = some (.cells #[x, u, z] t (0, 0)) := by
  simp only [World.setCell, Array.getElem?_modify, if_true, h, Option.map_some]
  rfl
theorem set32 {w : World} {bn : Nat} {x y z u : Value} {t : TypeId} (h : w.heap[bn]? = some (.cells #[x, y, z] t (0, 0))) : (w.setCell ⟨bn, 2, none⟩ u).heap[bn]? = some (.cells #[x, y, u] t (0, 0)) := by
  simp only [World.setCell, Array.getElem?_modify, if_true, h, Option.map_some]
  rfl
theorem set_ne {w : World} {bn o k : Nat} {u : Value} (h : k ≠ bn) : (w.setCell ⟨bn, o, none⟩ u).heap[k]? = w.heap[k]? := by
  simp only [World.setCell, Array.getElem?_modify]
  rw [if_neg (fun e => h e.symm)]
/-- a row's block is a row of its own type -/
theorem RowE.typed {w : World} {B : Nat} {v : Value} {xs : List El} (h : RowE w B v xs) {g : Nat} (hg : blk v = some g) {cur : Array Value} {t : TypeId} (ht : t ≠ 3) : w.heap[g]? ≠ some (.cells cur t (0, 0)) := by
  intro e
  rcases h.2 with ⟨a, rfl, _⟩ | ⟨g', cap, cur', rfl, _, hh, _⟩
  · rw [blk_zero] at hg; cases hg
  · cases cap with
    | zero => rw [blk_zero] at hg; cases hg
    | succ c =>
      cases hg
      rw [hh] at e
      injection e with e
      injection e with e1 e2
      exact ht e2.symm
theorem RowE.noMap {w : World} {B : Nat} {v : Value} {xs : List El} (h : RowE w B v xs) {g : Nat} (hg : blk v = some g) {m : Nat} {bs : List (List El)} (hm : BMap w m bs) : g ≠ m := by
  rintro rfl
  obtain ⟨⟨es, c, hb, r⟩, q⟩ := hm
  rcases h.2 with ⟨a, rfl, _⟩ | ⟨g', cap, cur', rfl, _, hh, _⟩
  · rw [blk_zero] at hg; cases hg
  · cases cap with
    | zero => rw [blk_zero] at hg; cases hg
    | succ c =>
      cases hg
      rw [hh] at hb
      cases hb
theorem rowW_noMap {w : World} {B : Nat} {v : Value} {xs : List Int} (h : VW.RowE w B v xs) {g : Nat} (hg : blk v = some g) {m : Nat} {bs : List (List El)} (hm : BMap w m bs) : g ≠ m := by
  rintro rfl
  obtain ⟨⟨es, c, hb, r⟩, q⟩ := hm
  rcases h.2 with ⟨a, rfl, _⟩ | ⟨g', cap, cur', rfl, _, hh, _⟩
  · rw [blk_zero] at hg; cases hg
  · cases cap with
    | zero => rw [blk_zero] at hg; cases hg
    | succ c =>
      cases hg
      rw [hh] at hb
      cases hb
theorem rowW_typed {w : World} {B : Nat} {v : Value} {xs : List Int} (h : VW.RowE w B v xs) {g : Nat} (hg : blk v = some g) {cur : Array Value} {t : TypeId} (ht : t ≠ 34) : w.heap[g]? ≠ some (.cells cur t (0, 0)) := by
  intro e
  rcases h.2 with ⟨a, rfl, _⟩ | ⟨g', cap, cur', rfl, _, hh, _⟩
  · rw [blk_zero] at hg; cases hg
  · cases cap with
    | zero => rw [blk_zero] at hg; cases hg
    | succ c =>
      cases hg
      rw [hh] at e
      injection e with e
      injection e with e1 e2
      exact ht e2.symm
theorem rows_apart {w : World} {B : Nat} {v u : Value} {xs : List El} {ys : List Int} (h : RowE w B v xs) (h' : VW.RowE w B u ys) {g : Nat} (hg : blk v = some g) : blk u ≠ some g := by
  intro hu
  rcases h.2 with ⟨a, rfl, _⟩ | ⟨g', cap, cur', rfl, _, hh, _⟩
  · rw [blk_zero] at hg; cases hg
  · cases cap with
    | zero => rw [blk_zero] at hg; cases hg
    | succ c =>
      cases hg
      exact rowW_typed h' hu (by decide) hh
section
variable {w : World} {B mk bn m : Nat} {v vl vb : Value} {bs : List (List El)} {ls : List Int} {xs : List El}
theorem MakAt.mkbn (h : MakAt w B mk bn m v vl vb bs ls xs) : mk ≠ bn := by
  rintro rfl
  have := h.hk
  rw [h.hn.hn] at this
  injection this with this
  injection this with e1 e2
  revert e2
  decide
theorem MakAt.mkm (h : MakAt w B mk bn m v vl vb bs ls xs) : mk ≠ m := by
  rintro rfl
  obtain ⟨⟨es, c, hb, r⟩, q⟩ := h.hn.hm
  have := h.hk
  rw [hb] at this
  cases this
theorem MakAt.mkv (h : MakAt w B mk bn m v vl vb bs ls xs) : blk v ≠ some mk := fun e => h.hn.hv.typed e (by decide) h.hk
theorem MakAt.mkb (h : MakAt w B mk bn m v vl vb bs ls xs) : blk vb ≠ some mk := fun e => h.hb.typed e (by decide) h.hk
theorem MakAt.mkl (h : MakAt w B mk bn m v vl vb bs ls xs) : blk vl ≠ some mk := fun e => rowW_typed h.hl e (by decide) h.hk
theorem MakAt.bnb (h : MakAt w B mk bn m v vl vb bs ls xs) : blk vb ≠ some bn := fun e => h.hb.typed e (by decide) h.hn.hn
theorem MakAt.bnl (h : MakAt w B mk bn m v vl vb bs ls xs) : blk vl ≠ some bn := fun e => rowW_typed h.hl e (by decide) h.hn.hn
theorem MakAt.mb (h : MakAt w B mk bn m v vl vb bs ls xs) : blk vb ≠ some m := fun e => h.hb.noMap e h.hn.hm rfl
theorem MakAt.ml (h : MakAt w B mk bn m v vl vb bs ls xs) : blk vl ≠ some m := fun e => rowW_noMap h.hl e h.hn.hm rfl
theorem MakAt.lt (h : MakAt w B mk bn m v vl vb bs ls xs) : mk < w.heap.size := (Array.getElem?_eq_some_iff.1 h.hk).1
theorem MakAt.vvl (h : MakAt w B mk bn m v vl vb bs ls xs) {g : Nat} (e : blk v = some g) : blk vl ≠ some g := rows_apart h.hn.hv h.hl e
theorem MakAt.bvl (h : MakAt w B mk bn m v vl vb bs ls xs) {g : Nat} (e : blk vb = some g) : blk vl ≠ some g := rows_apart h.hb h.hl e
theorem MakAt.own (h : MakAt w B mk bn m v vl vb bs ls xs) {i : Nat} (o : Own mk bn m v vl vb i) : B ≤ i ∧ i < w.heap.size := by
  rcases o with rfl | rfl | rfl | e | e | e
  · exact ⟨h.bB, h.lt⟩
  · exact ⟨h.hn.bB, h.hn.lt.1⟩
  · exact ⟨h.hn.mB, h.hn.lt.2⟩
  · exact h.hn.hv.lt i e
  · exact h.hl.lt i e
  · exact h.hb.lt i e
theorem MakAt.keep {w' : World} (h : MakAt w B mk bn m v vl vb bs ls xs) (k : ∀ i, Own mk bn m v vl vb i → w'.heap[i]? = w.heap[i]?) : MakAt w' B mk bn m v vl vb bs ls xs :=
  ⟨(k mk (.inl rfl)).trans h.hk, h.hn.keep (k bn (.inr (.inl rfl))) (k m (.inr (.inr (.inl rfl)))) (fun g e => k g (.inr (.inr (.inr (.inl e))))), h.hl.kept (fun g e => k g (.inr (.inr (.inr (.inr (.inl e)))))), h.hb.kept (fun g e => k g (.inr (.inr (.inr (.inr (.inr e)))))), h.bB, h.nv⟩
theorem MakAt.below {w' : World} (h : MakAt w B mk bn m v vl vb bs ls xs) (k : Below w.heap.size w w') : MakAt w' B mk bn m v vl vb bs ls xs :=
  h.keep fun i o => k.block i (h.own o).2
end
/-- a block numbered, told of the maker -/
theorem MakAt.numbered {w w' : World} {B mk bn m : Nat} {v v' vl vb : Value} {bs bs' : List (List El)} {ls : List Int} {xs : List El} (h : MakAt w B mk bn m v vl vb bs ls xs) (hn : NumAt w' B bn m v' bs') (k : NumK w w' bn m v v') : MakAt w' B mk bn m v' vl vb bs' ls xs ∧ MakK w w' (Own mk bn m v vl vb) (Own mk bn m v' vl vb) := by
  have hx : ∀ i, i < w.heap.size → i ≠ bn → i ≠ m → some i ≠ blk v → w'.heap[i]? = w.heap[i]? := k.2.1
  refine ⟨⟨(hx mk h.lt h.mkbn h.mkm (fun e => h.mkv e.symm)).trans h.hk, hn, h.hl.kept fun g e => hx g (h.hl.lt g e).2 (fun q => h.bnl (q ▸ e)) (fun q => h.ml (q ▸ e)) (fun q => h.vvl q.symm e), h.hb.kept fun g e => hx g (h.hb.lt g e).2 (fun q => h.bnb (q ▸ e)) (fun q => h.mb (q ▸ e)) (fun q => h.nv g q.symm e), h.bB, ?_⟩, ⟨k.1, fun i hi ho => hx i hi (fun e => ho (.inr (.inl e))) (fun e => ho (.inr (.inr (.inl e)))) (fun e => ho (.inr (.inr (.inr (.inl e.symm))))), ?_⟩⟩
  · intro g e e'
    rcases k.2.2 with q | q
    · exact h.nv g (q ▸ e) e'
    · have := q g e
      have := (h.hb.lt g e').2
      omega
  · rintro i (e | e | e | e | e | e)
    · exact .inl (.inl e)
    · exact .inl (.inr (.inl e))
    · exact .inl (.inr (.inr (.inl e)))
    · rcases k.2.2 with q | q
      · exact .inl (.inr (.inr (.inr (.inl (q ▸ e)))))
      · exact .inr (q i e)
    · exact .inl (.inr (.inr (.inr (.inr (.inl e)))))
    · exact .inl (.inr (.inr (.inr (.inr (.inr e)))))
/-- a number of a place laid, told of the maker -/
theorem MakAt.laid {w w' : World} {B mk bn m : Nat} {v vl vl' vb : Value} {bs : List (List El)} {ls ls' : List Int} {xs : List El} (h : MakAt w B mk bn m v vl vb bs ls xs) (ht : VW.TurnedE w w' B vl vl' ls') : MakAt (w'.setCell ⟨mk, 1, none⟩ vl') B mk bn m v vl' vb bs ls' xs ∧ MakK w (w'.setCell ⟨mk, 1, none⟩ vl') (Own mk bn m v vl vb) (Own mk bn m v vl' vb) ∧ w'.heap[mk]? = some (.cells #[.pointer (some ⟨bn, 0, none⟩), vl, vb] 229 (0, 0)) := by
  have hx : ∀ i, i < w.heap.size → some i ≠ blk vl → w'.heap[i]? = w.heap[i]? := fun i hi hne => ht.2.1.block i hi hne
  have hsz : w.heap.size ≤ w'.heap.size := ht.2.1.size
  have hmk := (hx mk h.lt (fun e => h.mkl e.symm)).trans h.hk
  have hne : ∀ g, blk vl' = some g → g ≠ mk := fun g e q => by
    subst q
    rcases ht.2.2 with q | q
    · exact h.mkl (q ▸ e)
    · have := q g e
      have := h.lt
      omega
  refine ⟨⟨set31 hmk, h.hn.keep ?_ ?_ ?_, ht.1.kept fun g e => set_ne (hne g e), h.hb.kept fun g e => ?_, h.bB, h.nv⟩, ⟨by rw [World.size_setCell]; exact hsz, ?_, ?_⟩, hmk⟩
  · rw [set_ne (fun e => h.mkbn e.symm), hx bn h.hn.lt.1 (fun e => h.bnl e.symm)]
  · rw [set_ne (fun e => h.mkm e.symm), hx m h.hn.lt.2 (fun e => h.ml e.symm)]
  · intro g e
    rw [set_ne (show g ≠ mk from fun q => h.mkv (q ▸ e)), hx g (h.hn.hv.lt g e).2 (fun q => h.vvl e q.symm)]
  · rw [set_ne (show g ≠ mk from fun q => h.mkb (q ▸ e)), hx g (h.hb.lt g e).2 (fun q => h.bvl e q.symm)]
  · intro i hi ho
    rw [set_ne (fun e => ho (.inl e)), hx i hi (fun e => ho (.inr (.inr (.inr (.inr (.inl e.symm))))))]
  · rintro i (e | e | e | e | e | e)
    · exact .inl (.inl e)
    · exact .inl (.inr (.inl e))
    · exact .inl (.inr (.inr (.inl e)))
    · exact .inl (.inr (.inr (.inr (.inl e))))
    · rcases ht.2.2 with q | q
      · exact .inl (.inr (.inr (.inr (.inr (.inl (q ▸ e))))))
      · exact .inr (q i e)
    · exact .inl (.inr (.inr (.inr (.inr (.inr e)))))
end Go.Proofs.Ytokillomaemocaa.VI
