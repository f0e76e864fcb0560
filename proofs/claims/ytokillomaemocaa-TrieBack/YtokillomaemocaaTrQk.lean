/-
  These texts, one behind the other: TrMkS, TrPutS, TrAddS, TrPBS.
-/
import Derived.Test.YtokillomaemocaaTrQj
import Derived.Test.YtokillomaemocaaTrQd
import Derived.Test.YtokillomaemocaaTrQf
/-
  The maker: how it lies in memory, what it keeps; a block put so many times.
-/
namespace Go.Proofs.Ytokillomaemocaa.VS
open Go.RowKit Go.PlainAid Go.Lib Go.PRow Go.Maps Go.TrM
set_option linter.unusedVariables false
set_option linter.unusedSimpArgs false

/-- the blocks that are a maker's own -/
def Own (mk bn m : Nat) (v vl vb : Value) (i : Nat) : Prop := i = mk ∨ i = bn ∨ i = m ∨ blk v = some i ∨ blk vl = some i ∨ blk vb = some i
/-- what lay there and is none's own stays; what is owned was owned or is new -/
structure MakK (w w' : World) (o o' : Nat → Prop) : Prop where
  size : w.heap.size ≤ w'.heap.size
  keep : ∀ i, i < w.heap.size → ¬ o i → w'.heap[i]? = w.heap[i]?
  own : ∀ i, o' i → o i ∨ w.heap.size ≤ i
theorem MakK.refl (w : World) (o : Nat → Prop) : MakK w w o o := ⟨Nat.le_refl _, fun _ _ _ => rfl, fun _ h => .inl h⟩
theorem MakK.trans {a b c : World} {o p q : Nat → Prop} (h : MakK a b o p) (g : MakK b c p q) : MakK a c o q := by
  refine ⟨Nat.le_trans h.size g.size, fun i hi ho => ?_, fun i hq => ?_⟩
  · rw [g.keep i (Nat.lt_of_lt_of_le hi h.size) (fun hp => ?_), h.keep i hi ho]
    rcases h.own i hp with e | e
    · exact ho e
    · omega
  · rcases g.own i hq with e | e
    · exact h.own i e
    · exact .inr (Nat.le_trans h.size e)
theorem MakK.below {a b c : World} {o p : Nat → Prop} (h : MakK a b o p) (g : Below b.heap.size b c) : MakK a c o p := by
  refine ⟨Nat.le_trans h.size g.size, fun i hi ho => ?_, h.own⟩
  rw [g.block i (Nat.lt_of_lt_of_le hi h.size), h.keep i hi ho]
theorem MakK.after {a b c : World} {o p : Nat → Prop} (g : Below a.heap.size a b) (h : MakK b c o p) : MakK a c o p := by
  refine ⟨Nat.le_trans g.size h.size, fun i hi ho => ?_, fun i hp => ?_⟩
  · rw [h.keep i (Nat.lt_of_lt_of_le hi g.size) ho, g.block i hi]
  · rcases h.own i hp with e | e
    · exact .inl e
    · exact .inr (Nat.le_trans g.size e)
/-- a maker at mk: its blocks bs, the numbers ls of the places so far, the values xs of the block that is begun -/
structure MakAt (w : World) (B mk bn m : Nat) (v vl vb : Value) (bs : List (List El)) (ls : List Int) (xs : List El) : Prop where
  hk : w.heap[mk]? = some (.cells #[.pointer (some ⟨bn, 0, none⟩), vl, vb] 217 (0, 0))
  hn : NumAt w B bn m v bs
  hl : VW.RowE w B vl ls
  hb : RowE w B vb xs
  bB : B ≤ mk
  nv : ∀ g, blk v = some g → blk vb ≠ some g
theorem cell3 {w : World} {bn : Nat} {x y z : Value} {t : TypeId} (h : w.heap[bn]? = some (.cells #[x, y, z] t (0, 0))) : w.cell? ⟨bn, 0, none⟩ = some x ∧ w.cell? ⟨bn, 1, none⟩ = some y ∧ w.cell? ⟨bn, 2, none⟩ = some z := by
  refine ⟨?_, ?_, ?_⟩ <;> simp [World.cell?, h]
theorem set31 {w : World} {bn : Nat} {x y z u : Value} {t : TypeId} (h : w.heap[bn]? = some (.cells #[x, y, z] t (0, 0))) : (w.setCell ⟨bn, 1, none⟩ u).heap[bn]? = some (.cells #[x, u, z] t (0, 0)) := by
  simp only [World.setCell, Array.getElem?_modify, if_true, h, Option.map_some]
  rfl
theorem set32 {w : World} {bn : Nat} {x y z u : Value} {t : TypeId} (h : w.heap[bn]? = some (.cells #[x, y, z] t (0, 0))) : (w.setCell ⟨bn, 2, none⟩ u).heap[bn]? = some (.cells #[x, y, u] t (0, 0)) := by
  simp only [World.setCell, Array.getElem?_modify, if_true, h, Option.map_some]
  rfl
theorem set_ne {w : World} {bn o k : Nat} {u : Value} (h : k ≠ bn) : (w.setCell ⟨bn, o, none⟩ u).heap[k]? = w.heap[k]? := by
  simp only [World.setCell, Array.getElem?_modify]
  rw [if_neg (fun e => h e.symm)]
/-- a row's block is a row of its own type -/
theorem RowE.typed {w : World} {B : Nat} {v : Value} {xs : List El} (h : RowE w B v xs) {g : Nat} (hg : blk v = some g) {cur : Array Value} {t : TypeId} (ht : t ≠ 9) : w.heap[g]? ≠ some (.cells cur t (0, 0)) := by
  intro e
  rcases h.2 with ⟨a, rfl, _⟩ | ⟨g', cap, cur', rfl, _, hh, _⟩
  · rw [blk_zero] at hg; cases hg
  · cases cap with
    | zero => rw [blk_zero] at hg; cases hg
    | succ c =>
      cases hg
      rw [hh] at e
      injection e with e
      injection e with e1 e2
      exact ht e2.symm
theorem RowE.noMap {w : World} {B : Nat} {v : Value} {xs : List El} (h : RowE w B v xs) {g : Nat} (hg : blk v = some g) {m : Nat} {bs : List (List El)} (hm : BMap w m bs) : g ≠ m := by
  rintro rfl
  obtain ⟨⟨es, c, hb, r⟩, q⟩ := hm
  rcases h.2 with ⟨a, rfl, _⟩ | ⟨g', cap, cur', rfl, _, hh, _⟩
  · rw [blk_zero] at hg; cases hg
  · cases cap with
    | zero => rw [blk_zero] at hg; cases hg
    | succ c =>
      cases hg
      rw [hh] at hb
      cases hb
theorem rowW_noMap {w : World} {B : Nat} {v : Value} {xs : List Int} (h : VW.RowE w B v xs) {g : Nat} (hg : blk v = some g) {m : Nat} {bs : List (List El)} (hm : BMap w m bs) : g ≠ m := by
  rintro rfl
  obtain ⟨⟨es, c, hb, r⟩, q⟩ := hm
  rcases h.2 with ⟨a, rfl, _⟩ | ⟨g', cap, cur', rfl, _, hh, _⟩
  · rw [blk_zero] at hg; cases hg
  · cases cap with
    | zero => rw [blk_zero] at hg; cases hg
    | succ c =>
      cases hg
      rw [hh] at hb
      cases hb
theorem rowW_typed {w : World} {B : Nat} {v : Value} {xs : List Int} (h : VW.RowE w B v xs) {g : Nat} (hg : blk v = some g) {cur : Array Value} {t : TypeId} (ht : t ≠ 34) : w.heap[g]? ≠ some (.cells cur t (0, 0)) := by
  intro e
  rcases h.2 with ⟨a, rfl, _⟩ | ⟨g', cap, cur', rfl, _, hh, _⟩
  · rw [blk_zero] at hg; cases hg
  · cases cap with
    | zero => rw [blk_zero] at hg; cases hg
    | succ c =>
      cases hg
      rw [hh] at e
      injection e with e
      injection e with e1 e2
      exact ht e2.symm
theorem rows_apart {w : World} {B : Nat} {v u : Value} {xs : List El} {ys : List Int} (h : RowE w B v xs) (h' : VW.RowE w B u ys) {g : Nat} (hg : blk v = some g) : blk u ≠ some g := by
  intro hu
  rcases h.2 with ⟨a, rfl, _⟩ | ⟨g', cap, cur', rfl, _, hh, _⟩
  · rw [blk_zero] at hg; cases hg
  · cases cap with
    | zero => rw [blk_zero] at hg; cases hg
    | succ c =>
      cases hg
      exact rowW_typed h' hu (by decide) hh
section
variable {w : World} {B mk bn m : Nat} {v vl vb : Value} {bs : List (List El)} {ls : List Int} {xs : List El}
theorem MakAt.mkbn (h : MakAt w B mk bn m v vl vb bs ls xs) : mk ≠ bn := by
  rintro rfl
  have := h.hk
  rw [h.hn.hn] at this
  injection this with this
  injection this with e1 e2
  revert e2
  decide
theorem MakAt.mkm (h : MakAt w B mk bn m v vl vb bs ls xs) : mk ≠ m := by
  rintro rfl
  obtain ⟨⟨es, c, hb, r⟩, q⟩ := h.hn.hm
  have := h.hk
  rw [hb] at this
  cases this
theorem MakAt.mkv (h : MakAt w B mk bn m v vl vb bs ls xs) : blk v ≠ some mk := fun e => h.hn.hv.typed e (by decide) h.hk
theorem MakAt.mkb (h : MakAt w B mk bn m v vl vb bs ls xs) : blk vb ≠ some mk := fun e => h.hb.typed e (by decide) h.hk
theorem MakAt.mkl (h : MakAt w B mk bn m v vl vb bs ls xs) : blk vl ≠ some mk := fun e => rowW_typed h.hl e (by decide) h.hk
theorem MakAt.bnb (h : MakAt w B mk bn m v vl vb bs ls xs) : blk vb ≠ some bn := fun e => h.hb.typed e (by decide) h.hn.hn
theorem MakAt.bnl (h : MakAt w B mk bn m v vl vb bs ls xs) : blk vl ≠ some bn := fun e => rowW_typed h.hl e (by decide) h.hn.hn
theorem MakAt.mb (h : MakAt w B mk bn m v vl vb bs ls xs) : blk vb ≠ some m := fun e => h.hb.noMap e h.hn.hm rfl
theorem MakAt.ml (h : MakAt w B mk bn m v vl vb bs ls xs) : blk vl ≠ some m := fun e => rowW_noMap h.hl e h.hn.hm rfl
theorem MakAt.lt (h : MakAt w B mk bn m v vl vb bs ls xs) : mk < w.heap.size := (Array.getElem?_eq_some_iff.1 h.hk).1
theorem MakAt.vvl (h : MakAt w B mk bn m v vl vb bs ls xs) {g : Nat} (e : blk v = some g) : blk vl ≠ some g := rows_apart h.hn.hv h.hl e
theorem MakAt.bvl (h : MakAt w B mk bn m v vl vb bs ls xs) {g : Nat} (e : blk vb = some g) : blk vl ≠ some g := rows_apart h.hb h.hl e
theorem MakAt.own (h : MakAt w B mk bn m v vl vb bs ls xs) {i : Nat} (o : Own mk bn m v vl vb i) : B ≤ i ∧ i < w.heap.size := by
  rcases o with rfl | rfl | rfl | e | e | e
  · exact ⟨h.bB, h.lt⟩
  · exact ⟨h.hn.bB, h.hn.lt.1⟩
  · exact ⟨h.hn.mB, h.hn.lt.2⟩
  · exact h.hn.hv.lt i e
  · exact h.hl.lt i e
  · exact h.hb.lt i e
theorem MakAt.keep {w' : World} (h : MakAt w B mk bn m v vl vb bs ls xs) (k : ∀ i, Own mk bn m v vl vb i → w'.heap[i]? = w.heap[i]?) : MakAt w' B mk bn m v vl vb bs ls xs :=
  ⟨(k mk (.inl rfl)).trans h.hk, h.hn.keep (k bn (.inr (.inl rfl))) (k m (.inr (.inr (.inl rfl)))) (fun g e => k g (.inr (.inr (.inr (.inl e))))), h.hl.kept (fun g e => k g (.inr (.inr (.inr (.inr (.inl e)))))), h.hb.kept (fun g e => k g (.inr (.inr (.inr (.inr (.inr e)))))), h.bB, h.nv⟩
theorem MakAt.below {w' : World} (h : MakAt w B mk bn m v vl vb bs ls xs) (k : Below w.heap.size w w') : MakAt w' B mk bn m v vl vb bs ls xs :=
  h.keep fun i o => k.block i (h.own o).2
end
/-- a block numbered, told of the maker -/
theorem MakAt.numbered {w w' : World} {B mk bn m : Nat} {v v' vl vb : Value} {bs bs' : List (List El)} {ls : List Int} {xs : List El} (h : MakAt w B mk bn m v vl vb bs ls xs) (hn : NumAt w' B bn m v' bs') (k : NumK w w' bn m v v') : MakAt w' B mk bn m v' vl vb bs' ls xs ∧ MakK w w' (Own mk bn m v vl vb) (Own mk bn m v' vl vb) := by
  have hx : ∀ i, i < w.heap.size → i ≠ bn → i ≠ m → some i ≠ blk v → w'.heap[i]? = w.heap[i]? := k.2.1
  refine ⟨⟨(hx mk h.lt h.mkbn h.mkm (fun e => h.mkv e.symm)).trans h.hk, hn, h.hl.kept fun g e => hx g (h.hl.lt g e).2 (fun q => h.bnl (q ▸ e)) (fun q => h.ml (q ▸ e)) (fun q => h.vvl q.symm e), h.hb.kept fun g e => hx g (h.hb.lt g e).2 (fun q => h.bnb (q ▸ e)) (fun q => h.mb (q ▸ e)) (fun q => h.nv g q.symm e), h.bB, ?_⟩, ⟨k.1, fun i hi ho => hx i hi (fun e => ho (.inr (.inl e))) (fun e => ho (.inr (.inr (.inl e)))) (fun e => ho (.inr (.inr (.inr (.inl e.symm))))), ?_⟩⟩
  · intro g e e'
    rcases k.2.2 with q | q
    · exact h.nv g (q ▸ e) e'
    · have := q g e
      have := (h.hb.lt g e').2
      omega
  · rintro i (e | e | e | e | e | e)
    · exact .inl (.inl e)
    · exact .inl (.inr (.inl e))
    · exact .inl (.inr (.inr (.inl e)))
    · rcases k.2.2 with q | q
      · exact .inl (.inr (.inr (.inr (.inl (q ▸ e)))))
      · exact .inr (q i e)
    · exact .inl (.inr (.inr (.inr (.inr (.inl e)))))
    · exact .inl (.inr (.inr (.inr (.inr (.inr e)))))
/-- a number of a place laid, told of the maker -/
theorem MakAt.laid {w w' : World} {B mk bn m : Nat} {v vl vl' vb : Value} {bs : List (List El)} {ls ls' : List Int} {xs : List El} (h : MakAt w B mk bn m v vl vb bs ls xs) (ht : VW.TurnedE w w' B vl vl' ls') : MakAt (w'.setCell ⟨mk, 1, none⟩ vl') B mk bn m v vl' vb bs ls' xs ∧ MakK w (w'.setCell ⟨mk, 1, none⟩ vl') (Own mk bn m v vl vb) (Own mk bn m v vl' vb) ∧ w'.heap[mk]? = some (.cells #[.pointer (some ⟨bn, 0, none⟩), vl, vb] 217 (0, 0)) := by
  have hx : ∀ i, i < w.heap.size → some i ≠ blk vl → w'.heap[i]? = w.heap[i]? := fun i hi hne => ht.2.1.block i hi hne
  have hsz : w.heap.size ≤ w'.heap.size := ht.2.1.size
  have hmk := (hx mk h.lt (fun e => h.mkl e.symm)).trans h.hk
  have hne : ∀ g, blk vl' = some g → g ≠ mk := fun g e q => by
    subst q
    rcases ht.2.2 with q | q
    · exact h.mkl (q ▸ e)
    · have := q g e
      have := h.lt
      omega
  refine ⟨⟨set31 hmk, h.hn.keep ?_ ?_ ?_, ht.1.kept fun g e => set_ne (hne g e), h.hb.kept fun g e => ?_, h.bB, h.nv⟩, ⟨by rw [World.size_setCell]; exact hsz, ?_, ?_⟩, hmk⟩
  · rw [set_ne (fun e => h.mkbn e.symm), hx bn h.hn.lt.1 (fun e => h.bnl e.symm)]
  · rw [set_ne (fun e => h.mkm e.symm), hx m h.hn.lt.2 (fun e => h.ml e.symm)]
  · intro g e
    rw [set_ne (show g ≠ mk from fun q => h.mkv (q ▸ e)), hx g (h.hn.hv.lt g e).2 (fun q => h.vvl e q.symm)]
  · rw [set_ne (show g ≠ mk from fun q => h.mkb (q ▸ e)), hx g (h.hb.lt g e).2 (fun q => h.bvl e q.symm)]
  · intro i hi ho
    rw [set_ne (fun e => ho (.inl e)), hx i hi (fun e => ho (.inr (.inr (.inr (.inr (.inl e.symm))))))]
  · rintro i (e | e | e | e | e | e)
    · exact .inl (.inl e)
    · exact .inl (.inr (.inl e))
    · exact .inl (.inr (.inr (.inl e)))
    · exact .inl (.inr (.inr (.inr (.inl e))))
    · rcases ht.2.2 with q | q
      · exact .inl (.inr (.inr (.inr (.inr (.inl (q ▸ e))))))
      · exact .inr (q i e)
    · exact .inl (.inr (.inr (.inr (.inr (.inr e)))))
end Go.Proofs.Ytokillomaemocaa.VS
/-
  A block put so many times.
-/
namespace Go.Proofs.Ytokillomaemocaa.VS
open Go.RowKit Go.PlainAid Go.Lib Go.PRow Go.Maps Go.TrM
set_option linter.unusedVariables false
set_option linter.unusedSimpArgs false

/-- one value laid as a row of its own -/
theorem rowW_one (w : World) (x : Int) : VW.RowE (w.alloc (.cells #[.int .u16 x] 34)) w.heap.size (.slice (some ⟨w.heap.size, 0, none⟩) 1 1) [x] :=
  VW.RowE.of (cur := #[.int .u16 x]) (Nat.le_refl _) (heap_alloc_new w _) rfl (Nat.le_refl _) (by unfold maxLen; omega) rfl rfl
/-- the number of a place laid, in a walk -/
theorem lay_one {w : World} {B mk bn m : Nat} {v vl vb : Value} {bs : List (List El)} {ls : List Int} {xs : List El} (h : MakAt w B mk bn m v vl vb bs ls xs) (x : Int) (hlen : ls.length ≤ 17408) :
    ∃ s' w', (∀ ty, (Builtin.append_ #[24, 24] ty #[vl, .slice (some ⟨w.heap.size, 0, none⟩) 1 1]).run Try.prog (w.alloc (.cells #[.int .u16 x] 34)) = .ok s' w') ∧ (∃ a n c, s' = .slice a n c) ∧ w'.heap[mk]? = some (.cells #[.pointer (some ⟨bn, 0, none⟩), vl, vb] 217 (0, 0)) ∧
      MakAt (w'.setCell ⟨mk, 1, none⟩ s') B mk bn m v s' vb bs (ls ++ [x]) xs ∧ MakK w (w'.setCell ⟨mk, 1, none⟩ s') (Own mk bn m v vl vb) (Own mk bn m v s' vb) ∧ Below B w (w'.setCell ⟨mk, 1, none⟩ s') := by
  have hbW : Below w.heap.size w (w.alloc (.cells #[.int .u16 x] 34)) := (Below.refl _ w).alloc (Nat.le_refl _) _
  have hM := h.below hbW
  have hBs : B ≤ w.heap.size := Nat.le_trans h.bB (Nat.le_of_lt h.lt)
  obtain ⟨s', w', hr, ht⟩ := VW.append_es B w.heap.size vl (.slice (some ⟨w.heap.size, 0, none⟩) 1 1) ls [x] _ (by rw [World.size_alloc]; omega) hM.hl (rowW_one w x) (by simp only [List.length_cons, List.length_nil]; omega)
  obtain ⟨hA, hK, hmk⟩ := hM.laid ht
  refine ⟨s', w', hr, ?_, hmk, hA, hK.after hbW, ?_⟩
  · obtain ⟨a, c, e, _⟩ := ht.1.form
    exact ⟨a, _, c, e⟩
  · have q1 := hbW.mono hBs
    have q2 := q1.grown ht.2.1 (by rw [World.size_alloc]; omega) (fun k hk => (hM.hl.lt k hk).1)
    exact q2.setCell h.bB _

set_option maxRecDepth 100000 in
set_option maxHeartbeats 2000000 in
theorem put_q (Q : Ending → World → Prop) (w : World) (B mk bn m : Nat) (v vl vb : Value) (bs : List (List El)) (ls : List Int) (xs : List El) (h : MakAt w B mk bn m v vl vb bs ls xs) (g o c : Nat) (b : List El) (hb : OkB b) (hc : ∀ j x, b[j]? = some x → w.cell? ⟨g, o + j, none⟩ = some (enc x)) (hg : blk v ≠ some g) (n : Nat) (hl : bs.length ≤ 17408) (hn : ls.length + n ≤ 17408)
    (hQ : Hid (∀ w' v' vl', MakAt w' B mk bn m v' vl' vb (numS bs b).1 (ls ++ List.replicate n ((numS bs b).2 : Int)) xs → MakK w w' (Own mk bn m v vl vb) (Own mk bn m v' vl' vb) → Below B w w' → Q (.returned (.tuple #[])) w')) :
    Calls Try.prog 100 #[.pointer (some ⟨mk, 0, none⟩), .slice (some ⟨g, o, none⟩) 64 c, .int .i64 n] w Q := by
  obtain ⟨c0, c1, c2⟩ := cell3 h.hk
  have HNO := hide (number_any w B bn m v bs h.hn g o c b hb hc hl)
  have hgm : g ≠ bn ∧ g ≠ m ∧ g < w.heap.size := by
    have hx := hc 0 (b[0]'(by rw [hb.1]; decide)) (List.getElem?_eq_getElem (by rw [hb.1]; decide))
    have hlt := World.block_lt_of_cell? _ _ hx
    refine ⟨?_, ?_, hlt⟩
    · rintro rfl
      have h63 := hc 63 (b[63]'(by rw [hb.1]; decide)) (List.getElem?_eq_getElem (by rw [hb.1]; decide))
      have hbn := h.hn.hn
      simp [World.cell?, hbn] at h63
    · rintro rfl
      obtain ⟨⟨es, cl, hb', r⟩, q⟩ := h.hn.hm
      simp [World.cell?, hb'] at hx
  have HH := hide (And.intro h (And.intro hc hgm))
  have HB := hide hb
  have HG := hide hg
  clear h hc hgm hb hg
  go_enter Try.func100, Try.ntmps100
  go_wp2_with fail
  refine (unhide HNO).mono ?_
  rintro e w1 ⟨rfl, v1, hN1, hK1, hB1⟩
  obtain ⟨hM1, hO1⟩ := (unhide HH).1.numbered hN1 hK1
  obtain ⟨_, hc, hgb, hgm, hgl⟩ := unhide HH
  have hc1 : ∀ j x, b[j]? = some x → w1.cell? ⟨g, o + j, none⟩ = some (enc x) := fun j x hx => by
    have := hc j x hx
    simp only [World.cell?] at this ⊢
    rw [hK1.2.1 g hgl hgb hgm (fun e => unhide HG e.symm)]
    exact this
  have hmem : b ∈ (numS bs b).1 := (numS_mem _ _ _).2 (.inr rfl)
  have HHA := hide (has_any w1 B bn m v1 (numS bs b).1 hN1 g o c b (unhide HB) hc1)
  rw [decide_eq_true hmem] at HHA
  obtain ⟨d0, d1, d2⟩ := cell3 hM1.hk
  generalize hno : ((numS bs b).2 : Int) = no at *
  generalize hbs : (numS bs b).1 = bs' at *
  have HM1 := hide (And.intro hM1 (And.intro hO1 hB1))
  clear hno hbs hc hgb hgm hgl hc1 hmem hN1 hK1 hM1 hO1 hB1 HNO HB HG HH c0 c1 c2 hl
  by_cases h1 : n = 1
  · have h1' : (n : Int) = 1 := by omega
    go_wp2_with fail
    go_loopw [6, 26] (fun v6 v26 wr => ∃ (k : Nat) (vl2 : Value), k ≤ n ∧ v6 = .int .u16 no ∧ v26 = .int .i64 k ∧ MakAt wr B mk bn m v1 vl2 vb bs' (ls ++ List.replicate k no) xs ∧ MakK w wr (Own mk bn m v vl vb) (Own mk bn m v1 vl2 vb) ∧ Below B w wr) (fun _ v26 _ => n - (RowKit.intOf v26).toNat)
    case atStart => exact ⟨0, vl, Nat.zero_le _, rfl, rfl, by simpa using unhide HM1⟩
    case round =>
      obtain ⟨k, vl2, hk, rfl, rfl, hM, hO, hB⟩ := hrel
      clear HM1
      by_cases hlt : k < n
      · have HAP := hide (lay_one hM no (by rw [List.length_append, List.length_replicate]; omega))
        obtain ⟨f0, f1, f2⟩ := cell3 hM.hk
        have hkn : (k : Int) < (n : Int) := by omega
        have hw : IntKind.i64.wrap ((k : Int) + 1) = (k : Int) + 1 := by rw [IntKind.wrap_i64]; omega
        have HO := hide (And.intro hO hB)
        have HM := hide hM
        clear hO hB hM
        have hk0 : k = 0 := by omega
        all_goals (
          go_wp2_with (at_builtin; refine VW.wpList_appendE rfl _ _ _ _ rfl _ _ rfl rfl (unhide HAP) ?_; rintro v' w3 ⟨⟨a', n', cap', rfl⟩, hmk3, hM3, hO3, hB3⟩; obtain ⟨e0, e1, e2⟩ := cell3 hmk3; have ef : w3.frozen? ⟨mk, 1, none⟩ = false := by { simp [World.frozen?, hmk3] })
          go_roundw)
        case rel => exact ⟨k + 1, .slice a' n' cap', by omega, rfl, by go_num, by rw [List.append_assoc, ← List.replicate_succ'] at hM3; exact ⟨hM3, (unhide HO).1.trans hO3, (unhide HO).2.trans hB3⟩⟩
        all_goals (simp [RowKit.intOf]; omega)
      · have hkn : ¬ ((k : Int) < (n : Int)) := by omega
        have e : k = n := by omega
        subst e
        have HQ := hide (And.intro hM (And.intro hO hB))
        clear hM hO hB
        go_wp2
        refine bodyPost_end (results_none rfl _ _ _) rfl ?_
        exact unhide hQ wr v1 vl2 (unhide HQ).1 (unhide HQ).2.1 (unhide HQ).2.2
  · have h1' : ¬ ((n : Int) = 1) := by omega
    go_wp2_with fail
    refine (unhide HHA).mono ?_
    rintro e w2 ⟨rfl, rfl⟩
    go_wp2_with fail
    go_loopw [6, 26] (fun v6 v26 wr => ∃ (k : Nat) (vl2 : Value), k ≤ n ∧ v6 = .int .u16 no ∧ v26 = .int .i64 k ∧ MakAt wr B mk bn m v1 vl2 vb bs' (ls ++ List.replicate k no) xs ∧ MakK w wr (Own mk bn m v vl vb) (Own mk bn m v1 vl2 vb) ∧ Below B w wr) (fun _ v26 _ => n - (RowKit.intOf v26).toNat)
    case atStart => exact ⟨0, vl, Nat.zero_le _, rfl, rfl, by simpa using (show MakAt w1.drew B mk bn m v1 vl vb bs' ls xs ∧ _ ∧ _ from ⟨(unhide HM1).1.keep fun _ _ => rfl, (unhide HM1).2.1.below (Below.refl _ _).drew, (unhide HM1).2.2.drew⟩)⟩
    case round =>
      obtain ⟨k, vl2, hk, rfl, rfl, hM, hO, hB⟩ := hrel
      clear HM1
      by_cases hlt : k < n
      · have HAP := hide (lay_one hM no (by rw [List.length_append, List.length_replicate]; omega))
        obtain ⟨f0, f1, f2⟩ := cell3 hM.hk
        have hkn : (k : Int) < (n : Int) := by omega
        have hw : IntKind.i64.wrap ((k : Int) + 1) = (k : Int) + 1 := by rw [IntKind.wrap_i64]; omega
        have HO := hide (And.intro hO hB)
        have HM := hide hM
        clear hO hB hM
        by_cases hk0 : k = 0
        all_goals (
          go_wp2_with (at_builtin; refine VW.wpList_appendE rfl _ _ _ _ rfl _ _ rfl rfl (unhide HAP) ?_; rintro v' w3 ⟨⟨a', n', cap', rfl⟩, hmk3, hM3, hO3, hB3⟩; obtain ⟨e0, e1, e2⟩ := cell3 hmk3; have ef : w3.frozen? ⟨mk, 1, none⟩ = false := by { simp [World.frozen?, hmk3] })
          go_roundw)
        case rel => exact ⟨k + 1, .slice a' n' cap', by omega, rfl, by go_num, by rw [List.append_assoc, ← List.replicate_succ'] at hM3; exact ⟨hM3, (unhide HO).1.trans hO3, (unhide HO).2.trans hB3⟩⟩
        case rel => exact ⟨k + 1, .slice a' n' cap', by omega, rfl, by go_num, by rw [List.append_assoc, ← List.replicate_succ'] at hM3; exact ⟨hM3, (unhide HO).1.trans hO3, (unhide HO).2.trans hB3⟩⟩
        all_goals (simp [RowKit.intOf]; omega)
      · have hkn : ¬ ((k : Int) < (n : Int)) := by omega
        have e : k = n := by omega
        subst e
        have HQ := hide (And.intro hM (And.intro hO hB))
        clear hM hO hB
        go_wp2
        refine bodyPost_end (results_none rfl _ _ _) rfl ?_
        exact unhide hQ wr v1 vl2 (unhide HQ).1 (unhide HQ).2.1 (unhide HQ).2.2
theorem put_any (w : World) (B mk bn m : Nat) (v vl vb : Value) (bs : List (List El)) (ls : List Int) (xs : List El) (h : MakAt w B mk bn m v vl vb bs ls xs) (g o c : Nat) (b : List El) (hb : OkB b) (hc : ∀ j x, b[j]? = some x → w.cell? ⟨g, o + j, none⟩ = some (enc x)) (hg : blk v ≠ some g) (n : Nat) (hl : bs.length ≤ 17408) (hn : ls.length + n ≤ 17408) :
    Calls Try.prog 100 #[.pointer (some ⟨mk, 0, none⟩), .slice (some ⟨g, o, none⟩) 64 c, .int .i64 n] w fun e w' => e = .returned (.tuple #[]) ∧ ∃ v' vl', MakAt w' B mk bn m v' vl' vb (numS bs b).1 (ls ++ List.replicate n ((numS bs b).2 : Int)) xs ∧ MakK w w' (Own mk bn m v vl vb) (Own mk bn m v' vl' vb) ∧ Below B w w' :=
  put_q _ w B mk bn m v vl vb bs ls xs h g o c b hb hc hg n hl hn (hide fun w' v' vl' h1 h2 h3 => ⟨rfl, v', vl', h1, h2, h3⟩)
end Go.Proofs.Ytokillomaemocaa.VS
/-
  A value added, values laid.
-/
namespace Go.Proofs.Ytokillomaemocaa.VS
open Go.RowKit Go.PlainAid Go.Lib Go.PRow Go.Maps Go.TrM
set_option linter.unusedVariables false
set_option linter.unusedSimpArgs false

/-- a maker that was given the values vs so far; o: the blocks that are its own -/
def MakV (w : World) (B mk : Nat) (o : Nat → Prop) (vs : List El) : Prop := ∃ bn m v vl vb, o = Own mk bn m v vl vb ∧ MakAt w B mk bn m v vl vb (whole vs).1 ((whole vs).2.map Int.ofNat) (restB vs) ∧ ∀ x ∈ vs, okE x
/-- one value laid as a row of its own -/
theorem rowE_one (w : World) (x : El) : RowE (w.alloc (.cells #[enc x] 9)) w.heap.size (.slice (some ⟨w.heap.size, 0, none⟩) 1 1) [x] :=
  RowE.of (cur := #[enc x]) (Nat.le_refl _) (heap_alloc_new w _) rfl (Nat.le_refl _) (by unfold maxLen; omega) rfl rfl
/-- a value begun, told of the maker -/
theorem MakAt.begun {w w' : World} {B mk bn m : Nat} {v vl vb vb' : Value} {bs : List (List El)} {ls : List Int} {xs xs' : List El} (h : MakAt w B mk bn m v vl vb bs ls xs) (ht : TurnedE w w' B vb vb' xs') : MakAt (w'.setCell ⟨mk, 2, none⟩ vb') B mk bn m v vl vb' bs ls xs' ∧ MakK w (w'.setCell ⟨mk, 2, none⟩ vb') (Own mk bn m v vl vb) (Own mk bn m v vl vb') ∧ w'.heap[mk]? = some (.cells #[.pointer (some ⟨bn, 0, none⟩), vl, vb] 217 (0, 0)) := by
  have hx : ∀ i, i < w.heap.size → some i ≠ blk vb → w'.heap[i]? = w.heap[i]? := fun i hi hne => ht.2.1.block i hi hne
  have hsz : w.heap.size ≤ w'.heap.size := ht.2.1.size
  have hmk := (hx mk h.lt (fun e => h.mkb e.symm)).trans h.hk
  have hne : ∀ g, blk vb' = some g → g ≠ mk := fun g e q => by
    subst q
    rcases ht.2.2 with q | q
    · exact h.mkb (q ▸ e)
    · have := q g e
      have := h.lt
      omega
  refine ⟨⟨set32 hmk, h.hn.keep ?_ ?_ ?_, h.hl.kept fun g e => ?_, ht.1.kept fun g e => set_ne (hne g e), h.bB, ?_⟩, ⟨by rw [World.size_setCell]; exact hsz, ?_, ?_⟩, hmk⟩
  · rw [set_ne (fun e => h.mkbn e.symm), hx bn h.hn.lt.1 (fun e => h.bnb e.symm)]
  · rw [set_ne (fun e => h.mkm e.symm), hx m h.hn.lt.2 (fun e => h.mb e.symm)]
  · intro g e
    rw [set_ne (show g ≠ mk from fun q => h.mkv (q ▸ e)), hx g (h.hn.hv.lt g e).2 (fun q => h.nv g e q.symm)]
  · rw [set_ne (show g ≠ mk from fun q => h.mkl (q ▸ e)), hx g (h.hl.lt g e).2 (fun q => h.bvl q.symm e)]
  · intro g e e'
    rcases ht.2.2 with q | q
    · exact h.nv g e (q ▸ e')
    · have := q g e'
      have := (h.hn.hv.lt g e).2
      omega
  · intro i hi ho
    rw [set_ne (fun e => ho (.inl e)), hx i hi (fun e => ho (.inr (.inr (.inr (.inr (.inr e.symm))))))]
  · rintro i (e | e | e | e | e | e)
    · exact .inl (.inl e)
    · exact .inl (.inr (.inl e))
    · exact .inl (.inr (.inr (.inl e)))
    · exact .inl (.inr (.inr (.inr (.inl e))))
    · exact .inl (.inr (.inr (.inr (.inr (.inl e)))))
    · rcases ht.2.2 with q | q
      · exact .inl (.inr (.inr (.inr (.inr (.inr (q ▸ e))))))
      · exact .inr (q i e)
/-- a value begun, in a walk -/
theorem begin_one {w : World} {B mk bn m : Nat} {v vl vb : Value} {bs : List (List El)} {ls : List Int} {xs : List El} (h : MakAt w B mk bn m v vl vb bs ls xs) (x : El) (hlen : xs.length ≤ 64) :
    ∃ s' w', (∀ ty, (Builtin.append_ #[123, 123] ty #[vb, .slice (some ⟨w.heap.size, 0, none⟩) 1 1]).run Try.prog (w.alloc (.cells #[enc x] 9)) = .ok s' w') ∧ (∃ a c, s' = .slice a (xs ++ [x]).length c) ∧ w'.heap[mk]? = some (.cells #[.pointer (some ⟨bn, 0, none⟩), vl, vb] 217 (0, 0)) ∧
      MakAt (w'.setCell ⟨mk, 2, none⟩ s') B mk bn m v vl s' bs ls (xs ++ [x]) ∧ MakK w (w'.setCell ⟨mk, 2, none⟩ s') (Own mk bn m v vl vb) (Own mk bn m v vl s') ∧ Below B w (w'.setCell ⟨mk, 2, none⟩ s') := by
  have hbW : Below w.heap.size w (w.alloc (.cells #[enc x] 9)) := (Below.refl _ w).alloc (Nat.le_refl _) _
  have hM := h.below hbW
  have hBs : B ≤ w.heap.size := Nat.le_trans h.bB (Nat.le_of_lt h.lt)
  obtain ⟨s', w', hr, ht⟩ := append_es B w.heap.size vb (.slice (some ⟨w.heap.size, 0, none⟩) 1 1) xs [x] _ (by rw [World.size_alloc]; omega) hM.hb (rowE_one w x) (by simp only [List.length_cons, List.length_nil]; omega)
  obtain ⟨hA, hK, hmk⟩ := hM.begun ht
  refine ⟨s', w', hr, ?_, hmk, hA, hK.after hbW, ?_⟩
  · obtain ⟨a, c, e, _⟩ := ht.1.form
    exact ⟨a, c, e⟩
  · have q1 := hbW.mono hBs
    have q2 := q1.grown ht.2.1 (by rw [World.size_alloc]; omega) (fun k hk => (hM.hb.lt k hk).1)
    exact q2.setCell h.bB _
/-- nothing is begun any more -/
theorem MakAt.empt {w : World} {B mk bn m g c : Nat} {v vl : Value} {bs : List (List El)} {ls : List Int} {xs : List El} (h : MakAt w B mk bn m v vl (.slice (some ⟨g, 0, none⟩) xs.length c) bs ls xs) (hx : xs ≠ []) : MakAt (w.setCell ⟨mk, 2, none⟩ (.slice (some ⟨g, 0, none⟩) 0 c)) B mk bn m v vl (.slice (some ⟨g, 0, none⟩) 0 c) bs ls [] ∧ MakK w (w.setCell ⟨mk, 2, none⟩ (.slice (some ⟨g, 0, none⟩) 0 c)) (Own mk bn m v vl (.slice (some ⟨g, 0, none⟩) xs.length c)) (Own mk bn m v vl (.slice (some ⟨g, 0, none⟩) 0 c)) := by
  obtain ⟨g', cap, cur, e, hb, hc, hh, hs, ht⟩ := h.hb.block hx
  injection e with e1 e2 e3
  injection e1 with e1
  injection e1 with e1
  subst e1; subst e3
  have hl := List.length_pos_iff.2 hx
  have hm : c ≤ maxLen := by
    obtain ⟨a, cap', e, _, hm, _⟩ := h.hb.form
    injection e with _ _ e
    omega
  obtain ⟨h1, h2, _⟩ := h.begun (w' := w) (vb' := .slice (some ⟨g, 0, none⟩) 0 c) (xs' := []) ⟨RowE.of hb hh rfl (Nat.zero_le _) hm hs (by simp), grown_reflE _ _, .inl (by rw [blk_posE (by omega), blk_posE (by omega)])⟩
  exact ⟨h1, h2⟩
end Go.Proofs.Ytokillomaemocaa.VS
/-
  A low block put so many times, told of all values so far.
-/
namespace Go.Proofs.Ytokillomaemocaa.VS
open Go.RowKit Go.PlainAid Go.Lib Go.PRow Go.Maps Go.TrM
set_option linter.unusedVariables false
set_option linter.unusedSimpArgs false
theorem put_blocks {vs b : List El} {n : Nat} (h : vs.length % 64 = 0) (hb : b.length = 64) (hn : 0 < n) : whole (vs ++ (List.replicate n b).flatten) = ((numS (whole vs).1 b).1, (whole vs).2 ++ List.replicate n (numS (whole vs).1 b).2) ∧ restB (vs ++ (List.replicate n b).flatten) = [] ∧ (vs ++ (List.replicate n b).flatten).length = vs.length + 64 * n := by
  have hfl : (List.replicate n b).flatten.length = 64 * n := by rw [flat_len _ (fun c hc => by rw [List.eq_of_mem_replicate hc]; exact hb), List.length_replicate]
  have hcut : cutN n (List.replicate n b).flatten = List.replicate n b := by
    have := cutN_flat (List.replicate n b) (fun c hc => by rw [List.eq_of_mem_replicate hc]; exact hb)
    rwa [List.length_replicate] at this
  unfold whole restB
  have e : (vs ++ (List.replicate n b).flatten).length / 64 = vs.length / 64 + n := by rw [List.length_append, hfl]; omega
  rw [e, cutN_app _ _ _ _ (by omega), hcut, numL_app]
  obtain ⟨k, rfl⟩ : ∃ k, n = k + 1 := ⟨n - 1, by omega⟩
  refine ⟨?_, ?_, by rw [List.length_append, hfl]⟩
  · simp only [List.replicate_succ, numL]
    have hm : b ∈ (numS (numL [] (cutN (vs.length / 64) vs)).1 b).1 := (numS_mem _ _ _).2 (.inr rfl)
    rw [numL_rep hm]
    refine Prod.ext rfl ?_
    simp only
    congr 3
    by_cases hb2 : b ∈ (numL [] (cutN (vs.length / 64) vs)).1
    · rw [numS_yes hb2]
    · rw [numS_no hb2]
      simp [List.idxOf_append, hb2]
  · rw [List.drop_eq_nil_iff, List.length_append, hfl]
    omega
/-- a block put, in a contract of all values -/
theorem put_vals (w : World) (B mk : Nat) (o : Nat → Prop) (vs : List El) (h : MakV w B mk o vs) (hv : vs.length % 64 = 0) (g off c : Nat) (b : List El) (hb : OkB b) (hok : ∀ x ∈ b, okE x) (hc : ∀ j x, b[j]? = some x → w.cell? ⟨g, off + j, none⟩ = some (enc x)) (hg : ¬ o g) (n : Nat) (hn : 0 < n) (hl : vs.length + 64 * n ≤ 1114112) :
    Calls Try.prog 100 #[.pointer (some ⟨mk, 0, none⟩), .slice (some ⟨g, off, none⟩) 64 c, .int .i64 n] w fun e w' => e = .returned (.tuple #[]) ∧ ∃ o', MakV w' B mk o' (vs ++ (List.replicate n b).flatten) ∧ MakK w w' o o' ∧ Below B w w' := by
  obtain ⟨bn, m, v, vl, vb, rfl, hM, hk⟩ := h
  have hb64 : b.length = 64 := hb.1
  obtain ⟨e1, e2, e3⟩ := put_blocks (n := n) hv hb64 hn
  have hr : restB vs = [] := by unfold restB; rw [List.drop_eq_nil_iff]; omega
  refine (put_any w B mk bn m v vl vb _ _ _ hM g off c b hb hc (fun e => hg (.inr (.inr (.inr (.inl e))))) n ?_ ?_).mono ?_
  · have := whole_le vs; omega
  · rw [List.length_map, whole_len]; omega
  · rintro e w' ⟨rfl, v', vl', h1, h2, h3⟩
    refine ⟨rfl, _, ⟨bn, m, v', vl', vb, rfl, ?_, fun x hx => ?_⟩, h2, h3⟩
    · rw [e1, e2]
      rw [hr] at h1
      simp only [List.map_append, List.map_replicate]
      exact h1
    · rcases List.mem_append.1 hx with hx | hx
      · exact hk x hx
      · obtain ⟨l, hl, hx⟩ := List.mem_flatten.1 hx
        rw [List.eq_of_mem_replicate hl] at hx
        exact hok x hx
end Go.Proofs.Ytokillomaemocaa.VS
