/-
  These texts, one behind the other: TrMapW, TrRowW, TrNumW.
-/
import Derived.Test.YtokillomaemocaaTrQb
import Derived.Test.YtokillomaemocaaChecked
import Derived.WideKeyPair
import Derived.Maps.OwnSet
import Derived.WalkSpells
import Derived.PlainAid
import Derived.WalkKit
import Derived.WalkLawsBesides
import Derived.Handy
import Derived.Deep.QuietTactic
import Derived.Deep.WholeRow
import Derived.Test.YtokillomaemocaaTrQc
/-
  A map whose keys are blocks of 64 values, and whose elements are their numbers, in memory.
-/
namespace Go.Proofs.Ytokillomaemocaa.VW
open Go.RowKit Go.Maps Go.TrM
set_option linter.unusedVariables false
set_option linter.unusedSimpArgs false

abbrev El := Int
abbrev enc (x : El) : Value := .int .u16 x
abbrev lit (x : El) : Lit := .int .u16 x
abbrev zeroE : Value := .int .u16 0
def okE (x : El) : Prop := (Lit.int .u16 x).wf = true
theorem enc_inj {a b : El} (h : enc a = enc b) : a = b := by simpa [enc] using h
theorem lits_one (m : Nat) (x : El) (h : okE x) : Try.prog.keyLits (m + 1) 34 [enc x] = some ([x].map lit) := by
  unfold Program.keyLits
  rw [Try.underlying34]
  simp only [enc]
  rw [if_pos ⟨trivial, h⟩]
  rfl

theorem key_inj {P : Program} {k e : TypeId} {n : Nat} (A : WideMaps.ArrKey P k e n) {a b : Value} {l : Lit} (ha : keyOf P k a = some l) (hb : keyOf P k b = some l) : a = b := keyOf_inj_deep A.tiled A.wide ha hb
theorem arrKey : WideMaps.ArrKey Try.prog 211 34 64 := ⟨Try.underlying211, by kernel_rfl, by kernel_rfl, by kernel_rfl⟩
theorem keyedB : Keyed Try.prog 211 := Keyed.of_law arrKey.law
theorem encs_inj : ∀ {a b : List El}, a.map enc = b.map enc → a = b := by
  intro a
  induction a with
  | nil => intro b h; cases b with | nil => rfl | cons y b => simp at h
  | cons x a ih =>
    intro b h
    cases b with
    | nil => simp at h
    | cons y b =>
      simp only [List.map_cons, List.cons.injEq] at h
      rw [enc_inj h.1, ih h.2]
theorem mapM_some {α β : Type} (f : α → Option β) (g : α → β) : ∀ l : List α, (∀ i ∈ l, f i = some (g i)) → l.mapM f = some (l.map g) := by
  intro l
  induction l with
  | nil => intro _; rfl
  | cons a l ih =>
    intro h
    rw [List.mapM_cons, h a List.mem_cons_self, ih fun i hi => h i (List.mem_cons_of_mem _ hi)]
    rfl
/-- a block that may stand in memory -/
def OkB (b : List El) : Prop := b.length = 64 ∧ ∀ x ∈ b, okE x
theorem pieces_one (b : List El) : ∀ n, b.length = n → ((List.range n).map fun i => ((b.drop i).take 1).map lit).flatten = b.map lit := by
  induction b with
  | nil => intro n h; subst h; rfl
  | cons x b ih =>
    intro n h
    subst h
    rw [List.length_cons, List.range_succ_eq_map, List.map_cons, List.flatten_cons, List.map_map]
    have := ih b.length rfl
    simp only [List.drop_zero, List.take_succ_cons, List.take_zero, List.map_cons, List.map_nil, List.singleton_append]
    congr 1
theorem keyOf_b {b : List El} (h : OkB b) : keyOf Try.prog 211 (.agg (b.map enc).toArray) = some (.string (keyBytes (b.map lit))) := by
  have hsz : ∃ m, Try.prog.types.size = m + 1 := ⟨306 - 1, by kernel_rfl⟩
  have hkt := arrKey.keyType hsz
  obtain ⟨m, hm⟩ : ∃ m, Try.prog.types.size = m + 1 := hsz
  unfold keyOf
  simp only [arrKey.hu]
  rw [if_pos (by simp [hkt, Value.formed, arrKey.hu, arrKey.size, h.1]), hm]
  unfold Program.keyLits
  simp only [arrKey.hu, Value.cells]
  rw [if_pos (by rw [arrKey.size]; simp [h.1])]
  rw [mapM_some _ (fun i => ((b.drop i).take 1).map lit) (List.range 64) (by
    intro i hi
    have hi' : i < b.length := by rw [h.1]; exact List.mem_range.1 hi
    rw [arrKey.one, Nat.mul_one]
    have e1 : (b.drop i).take 1 = [b[i]] := by rw [List.drop_eq_getElem_cons hi']; rfl
    have e2 : ((b.map enc).toArray.toList.drop i).take 1 = [enc b[i]] := by
      rw [List.toList_toArray, ← List.map_drop, ← List.map_take, e1]; rfl
    rw [e2, e1]
    exact lits_one m _ (h.2 _ (List.getElem_mem hi')))]
  rw [Option.map_some, pieces_one b 64 h.1]
  rfl
def keyB (b : List El) : Lit := .string (keyBytes (b.map lit))
theorem keyB_inj {a b : List El} (ha : OkB a) (hb : OkB b) (h : keyB a = keyB b) : a = b := by
  have e1 := keyOf_b ha
  have e2 := keyOf_b hb
  rw [show Lit.string (keyBytes (a.map lit)) = Lit.string (keyBytes (b.map lit)) from h] at e1
  have := key_inj arrKey e1 e2
  have e3 : (a.map enc).toArray = (b.map enc).toArray := by injection this
  exact encs_inj (by simpa using congrArg Array.toList e3)
theorem isKeyB (b : List El) : WideAt.IsKeyLit (keyB b) := by unfold keyB; trivial
def mapF : DataW Unit → Nat → List (List El) → DataW Unit
  | D, _, [] => D
  | D, n, b :: bs => mapF (D.put (keyB b) (.lit (.int .u16 (n : Int)))) (n + 1) bs
def mapD (bs : List (List El)) : DataW Unit := mapF (.map []) 0 bs
theorem mapF_snoc : ∀ (bs : List (List El)) (D : DataW Unit) (n : Nat) (b : List El), mapF D n (bs ++ [b]) = (mapF D n bs).put (keyB b) (.lit (.int .u16 ((n + bs.length : Nat) : Int))) := by
  intro bs
  induction bs with
  | nil => intro D n b; rfl
  | cons c bs ih =>
    intro D n b
    simp only [List.cons_append, mapF, ih, List.length_cons]
    rw [show n + 1 + bs.length = n + (bs.length + 1) by omega]
theorem mapD_snoc (bs : List (List El)) (b : List El) : mapD (bs ++ [b]) = (mapD bs).put (keyB b) (.lit (.int .u16 (bs.length : Int))) := by
  unfold mapD; rw [mapF_snoc, Nat.zero_add]
theorem snocI {α : Type} {p : List α → Prop} (h0 : p []) (h1 : ∀ l x, p l → p (l ++ [x])) (l : List α) : p l := by
  have : ∀ m : List α, p m.reverse := by
    intro m
    induction m with
    | nil => exact h0
    | cons a m ih => rw [List.reverse_cons]; exact h1 _ _ ih
  simpa using this l.reverse
theorem mapD_all (bs : List (List El)) : (∀ b ∈ bs, OkB b) → bs.Nodup → Tidy (mapD bs) ∧ Maps.size (mapD bs) = bs.length ∧ (∀ b, OkB b → Maps.has (mapD bs) (keyB b) = decide (b ∈ bs)) ∧ ∀ b z, OkB b → (mapD bs).atKey (keyB b) z = if b ∈ bs then .lit (.int .u16 ((numS bs b).2 : Int)) else z := by
  induction bs using snocI with
  | h0 => exact fun _ _ => ⟨tidy_empty, rfl, fun b hb => by simp [mapD, mapF]; rfl, fun b z hb => by simp [mapD, mapF]; rfl⟩
  | h1 bs c ih =>
    intro hok hnd
    rw [List.nodup_append] at hnd
    obtain ⟨hnd1, _, hnd2⟩ := hnd
    have hc := hok c (by simp)
    have hcn : ¬ c ∈ bs := fun h => hnd2 c h c (by simp) rfl
    obtain ⟨i1, i2, i3, i4⟩ := ih (fun b hb => hok b (by simp [hb])) hnd1
    rw [mapD_snoc]
    refine ⟨i1.put (isKeyB c) _, ?_, fun b hb => ?_, fun b z hb => ?_⟩
    · rw [size_put i1, i3 c hc, i2]
      simp [hcn]
    · by_cases e : b = c
      · subst e
        rw [has_put_same i1.isMap (isKeyB b)]; simp
      · rw [has_put_other (fun h => e (keyB_inj hb hc h)), i3 b hb]
        simp [e]
    · by_cases e : b = c
      · subst e
        rw [atKey_put_same i1.isMap (isKeyB b)]
        rw [if_pos (by simp), numS_new hcn]
      · rw [atKey_put_other (fun h => e (keyB_inj hb hc h)), i4 b z hb]
        by_cases hm : b ∈ bs
        · rw [if_pos hm, if_pos (by simp [hm]), numS_old hm]
        · simp [hm, e]
/-- block m is a map of these blocks' numbers -/
def BMap (w : World) (m : Nat) (bs : List (List El)) : Prop := w.ownsMap (H := Unit) Try.prog 211 (plainElem Try.prog 34) m bs.length (mapD bs) ∧ bs.Nodup ∧ ∀ b ∈ bs, OkB b
theorem zero16 (w : World) : (zeroValue 34).run Try.prog w = .ok (.int .u16 0) w := by kernel_rfl
theorem BMap.look {w : World} {m : Nat} {bs : List (List El)} (h : BMap w m bs) {b : List El} (hb : OkB b) :
    (Instr.lookup 168 (.map (some m)) (.agg (b.map enc).toArray) true).run Try.prog w = .ok (.tuple #[.int .u16 (if b ∈ bs then ((numS bs b).2 : Int) else 0), .bool (decide (b ∈ bs))]) w := by
  obtain ⟨_, _, i3, i4⟩ := mapD_all bs h.2.2 h.2.1
  obtain ⟨v, ps, hrun, hv⟩ := World.ownsMap.look_ok h.1 keyedB Try.underlying168 (zero16 w) (plainElem_int Try.underlying34 (by decide)) (keyOf_b hb)
  rw [show Lit.string (keyBytes (b.map lit)) = keyB b from rfl, i3 b hb] at hrun
  rw [show Lit.string (keyBytes (b.map lit)) = keyB b from rfl, i4 b _ hb] at hv
  obtain ⟨c, rfl, hc, _⟩ := plainElem_int_inv Try.underlying34 hv
  have : c = (if b ∈ bs then ((numS bs b).2 : Int) else 0) := by
    simp only [Prod.mk.injEq] at hc
    by_cases hm : b ∈ bs
    · rw [if_pos hm] at hc ⊢; have := hc.1; simp at this; exact this.symm
    · rw [if_neg hm] at hc ⊢; have := hc.1; simp at this; exact this.symm
  rw [this] at hrun
  exact hrun
theorem BMap.len {w : World} {m : Nat} {bs : List (List El)} (h : BMap w m bs) (ty : TypeId) : (Builtin.len_ #[168] ty #[.map (some m)]).run Try.prog w = .ok (.int .i64 (bs.length : Int)) w := by
  have := World.ownsMap.len h.1 Try.underlying168 ty
  rw [(mapD_all bs h.2.2 h.2.1).2.1] at this
  exact this
theorem BMap.put {w : World} {m : Nat} {bs : List (List El)} (h : BMap w m bs) {b : List El} (hb : OkB b) (hn : ¬ b ∈ bs) (hl : bs.length ≤ 65535) :
    ∃ w', (Instr.mapUpdate 168 (.map (some m)) (.agg (b.map enc).toArray) (.int .u16 (bs.length : Int))).run Try.prog w = .ok () w' ∧ BMap w' m (bs ++ [b]) ∧ w.grownBy w' (some m) := by
  have hwf : (Lit.int .u16 (bs.length : Int)).wf = true := by
    have h1 : IntKind.u16.min = 0 := by decide
    have h2 : IntKind.u16.max = 65535 := by decide
    simp [Lit.wf, h1, h2]; omega
  obtain ⟨w', h1, h2, h3⟩ := World.ownsMap.update h.1 keyedB Try.underlying168 (by unfold maxLen; omega) (keyOf_b hb) (plainElem_int Try.underlying34 hwf)
  refine ⟨w', h1, ⟨?_, ?_, ?_⟩, h3⟩
  · rw [mapD_snoc, List.length_append]
    exact h2
  · rw [List.nodup_append]
    exact ⟨h.2.1, by simp, by rintro a ha c hc rfl; simp at hc; exact hn (hc ▸ ha)⟩
  · intro c hc
    rcases List.mem_append.1 hc with hc | hc
    · exact h.2.2 c hc
    · rcases List.mem_singleton.1 hc with rfl; exact hb
theorem BMap.kept {w w' : World} {row : Option Nat} {m : Nat} {l : List (List El)} (h : BMap w m l) (hg : w.grownBy w' row) (hne : some m ≠ row) : BMap w' m l := ⟨World.ownsMap.kept h.1 hg hne, h.2⟩
theorem BMap.lt {w : World} {m : Nat} {l : List (List El)} (h : BMap w m l) : m < w.heap.size := World.ownsMap.lt h.1
theorem BMap.same {w w' : World} {m : Nat} {l : List (List El)} (h : BMap w m l) (he : w'.heap[m]? = w.heap[m]?) : BMap w' m l := by
  obtain ⟨⟨es, c, hb, r⟩, q⟩ := h
  exact ⟨⟨es, c, he.trans hb, r⟩, q⟩
theorem BMap.below {w w' : World} {m : Nat} {l : List (List El)} (h : BMap w m l) (hb : Below w.heap.size w w') : BMap w' m l := h.same (hb.block m h.lt)
theorem BMap.new (w : World) : BMap (w.alloc (.map #[] 0)) w.heap.size [] := ⟨World.ownsMap_made w _ _ _, List.nodup_nil, fun b hb => by cases hb⟩
end Go.Proofs.Ytokillomaemocaa.VW
/-
  Rows of values, one cell each: how they lie in memory; an append of a row to a row.
-/
namespace Go.Proofs.Ytokillomaemocaa.VW
open Go.RowKit Go.PlainAid Go.Lib Go.PRow Go.Maps Go.TrM
set_option linter.unusedVariables false
set_option linter.unusedSimpArgs false

theorem infoE : (Try.prog.info? 34).map (fun i => (i.zero, i.size, i.bytes)) = some (some zeroE, 1, 2) := by kernel_rfl
theorem cellsE_one (xs : List El) : ∀ v ∈ xs.map enc, v.oneCell' = true := by
  intro v hv
  obtain ⟨x, _, rfl⟩ := List.mem_map.1 hv
  rfl
/-- a slice of the values xs, from the block B on -/
def RowE (W : World) (B : Nat) (v : Value) (xs : List El) : Prop := RowV W B 34 1 v xs.length (xs.map enc)
theorem RowE.form {W : World} {B : Nat} {v : Value} {xs : List El} (h : RowE W B v xs) : ∃ a cap, v = .slice a xs.length cap ∧ xs.length ≤ cap ∧ cap ≤ maxLen ∧ (a = none → xs = []) := by
  rcases h.2 with ⟨a, rfl, hn⟩ | ⟨g, cap, cur, rfl, hb, hh, hc, hm, hs, ht⟩
  · exact ⟨a, 0, by rw [hn], by omega, by unfold maxLen; omega, fun _ => List.length_eq_zero_iff.1 hn⟩
  · exact ⟨_, cap, rfl, hc, hm, fun h => by cases h⟩
theorem RowE.of {W : World} {B g cap n : Nat} {cur : Array Value} {xs : List El} (hb : B ≤ g) (hh : W.heap[g]? = some (.cells cur 34 (0, 0))) (hn : xs.length = n) (hc : n ≤ cap) (hm : cap ≤ maxLen) (hs : cur.size = cap) (ht : cur.toList.take n = xs.map enc) :
    RowE W B (.slice (some ⟨g, 0, none⟩) n cap) xs := by
  subst hn
  exact ⟨by simp, .inr ⟨g, cap, cur, rfl, hb, hh, hc, hm, by omega, by rw [Nat.mul_one]; exact ht⟩⟩
theorem RowE.kept {W W' : World} {B : Nat} {v : Value} {xs : List El} (h : RowE W B v xs) (hb : ∀ g, blk v = some g → W'.heap[g]? = W.heap[g]?) : RowE W' B v xs := RowV.kept h hb
theorem RowE.below {W W' : World} {B : Nat} {v : Value} {xs : List El} (h : RowE W B v xs) (hb : Below W.heap.size W W') : RowE W' B v xs := RowV.below h hb
theorem RowE.mono {W : World} {B B' : Nat} {v : Value} {xs : List El} (h : RowE W B v xs) (hb : B' ≤ B) : RowE W B' v xs := RowV.mono h hb
theorem RowE.lt {W : World} {B : Nat} {v : Value} {xs : List El} (h : RowE W B v xs) : ∀ g, blk v = some g → B ≤ g ∧ g < W.heap.size := RowV.lt h
theorem blk_posE {a : Addr} {n c : Nat} (h : 0 < c) : blk (.slice (some a) n c) = some a.block := by
  cases c with
  | zero => omega
  | succ c => rfl
/-- its cells -/
theorem RowE.cell {W : World} {B : Nat} {v : Value} {xs : List El} (h : RowE W B v xs) {j : Nat} {x : El} (hx : xs[j]? = some x) : ∃ g cap, v = .slice (some ⟨g, 0, none⟩) xs.length cap ∧ xs.length ≤ cap ∧ B ≤ g ∧ W.cell? ⟨g, j, none⟩ = some (enc x) := by
  have hj := (List.getElem?_eq_some_iff.1 hx).1
  rcases h.2 with ⟨a, rfl, hn⟩ | ⟨g, cap, cur, rfl, hb, hh, hc, hm, hs, ht⟩
  · omega
  · exact ⟨g, cap, rfl, hc, hb, row_cell hh ht (by omega) j _ (by rw [List.getElem?_map, hx]; rfl)⟩
theorem RowE.block {W : World} {B : Nat} {v : Value} {xs : List El} (h : RowE W B v xs) (hx : xs ≠ []) : ∃ g cap cur, v = .slice (some ⟨g, 0, none⟩) xs.length cap ∧ B ≤ g ∧ xs.length ≤ cap ∧ W.heap[g]? = some (.cells cur 34 (0, 0)) ∧ cur.size = cap ∧ cur.toList.take xs.length = xs.map enc := by
  have hl := List.length_pos_iff.2 hx
  rcases h.2 with ⟨a, rfl, hn⟩ | ⟨g, cap, cur, rfl, hb, hh, hc, hm, hs, ht⟩
  · omega
  · exact ⟨g, cap, cur, rfl, hb, hc, hh, by omega, by rw [Nat.mul_one] at ht; exact ht⟩
/-- what becomes of a slice s: s' with the values xs', in its own block or in a new one -/
def TurnedE (w w' : World) (B : Nat) (s s' : Value) (xs' : List El) : Prop :=
  RowE w' B s' xs' ∧ w.grownBy w' (blk s) ∧ (blk s' = blk s ∨ ∀ g, blk s' = some g → w.heap.size ≤ g)
theorem grown_reflE (w : World) (row : Option Nat) : w.grownBy w row := ⟨rfl, rfl, rfl, Nat.le_refl _, fun _ _ _ => rfl⟩
theorem grown_newE (w : World) (o : Obj) (row : Option Nat) : w.grownBy (w.drew.alloc o) row :=
  ⟨rfl, rfl, rfl, by simp, fun k hk _ => Below.heap_alloc w.drew o k hk⟩
/-- an append of what is there as a source -/
theorem append_src (B : Nat) (s u : Value) (xs ys : List El) (w : World) (hB : B ≤ w.heap.size) (hr : RowE w B s xs) (hu : Src Try.prog 1 24 u ys.length (ys.map enc) w) (hbig : (xs.length + ys.length) * 2 ≤ 140737488355328) :
    ∃ s' w', (∀ ty, (Builtin.append_ #[24, 24] ty #[s, u]).run Try.prog w = .ok s' w') ∧ TurnedE w w' B s s' (xs ++ ys) := by
  obtain ⟨i0, hi0, hz0, hzs, hzb⟩ := info_parts infoE
  have hsrcs := src_of_row (P := Try.prog) hr Try.underlying24 (cellsE_one xs)
  obtain ⟨a, cap, rfl, hc1, hc2, _⟩ := hr.form
  by_cases hq : ys = []
  · subst hq
    refine ⟨_, _, fun ty => run_append_none w 24 24 ty 34 i0 Try.underlying24 hi0 a xs.length cap _ (by rw [hzs]; exact hu) hc1, ⟨by simpa using hr, grown_reflE _ _, .inl rfl⟩⟩
  have hm : 0 < ys.length := List.length_pos_iff.2 hq
  by_cases hroom : xs.length + ys.length ≤ cap
  · rcases hr.2 with ⟨a', e, e'⟩ | ⟨g, cap', cur, e, hg, hh, hn, hc, hs, ht⟩
    · injection e with e1 e2 e3
      omega
    · injection e with e1 e2 e3
      subst e1; subst e3
      rw [Nat.mul_one] at hs ht
      have hfit : xs.length + (ys.map enc).length ≤ cur.size := by rw [List.length_map, hs]; omega
      refine ⟨_, _, fun ty => by
        have := run_append_inK w 24 24 ty 34 i0 Try.underlying24 hi0 g 0 xs.length cap cur _ u ys.length (ys.map enc) (by rw [hzs]; exact hu) hroom hh (by rw [hzs]; omega)
        rw [hzs, Nat.zero_add, Nat.mul_one] at this
        exact this, ⟨RowE.of (cur := spl cur xs.length (ys.map enc)) hg ?_ (by simp) hroom hc2 (by rw [spl_size _ _ _ hfit, hs]) ?_, ?_, .inl ?_⟩⟩
      · simp only [World.setRow, Array.getElem?_modify, if_true, hh, Option.map_some]
      · rw [spl_end ht (by simp) (by simp), List.map_append]
      · rw [blk_posE (by omega)]; exact setRow_grown w g _
      · rw [blk_posE (by omega), blk_posE (by omega)]
  · have hG1 : xs.length + ys.length ≤ grownCap w (xs.length + ys.length) cap 34 := grownCap_ge w _ cap 34
    have hG2 := grownCap_le_maxLen w (xs.length + ys.length) cap 34 (by unfold maxLen; omega)
    refine ⟨_, _, fun ty => by
      have := run_append_grow_src w 24 24 ty 34 i0 zeroE Try.underlying24 hi0 hz0 a xs.length cap (xs.map enc) (by rw [hzs]; exact hsrcs.cellsD) u ys.length (ys.map enc) (by rw [hzs]; exact hu) (by omega) (by omega) (by rw [hzb]; exact growslice_fits (by omega) hbig)
      exact this, ⟨RowE.of (cur := (xs.map enc ++ ys.map enc).toArray ++ Builtin.zeroCells zeroE.cells (grownCap w (xs.length + ys.length) cap 34 - (xs.length + ys.length))) hB (heap_alloc_new w.drew _) (by simp) hG1 hG2 (by
        have := zs_length zeroE (grownCap w (xs.length + ys.length) cap 34 - (xs.length + ys.length))
        rw [zs, Array.length_toList] at this
        have hz : zeroE.cells.size = 1 := rfl
        rw [hz, Nat.mul_one] at this
        rw [Array.size_append, List.size_toArray, List.length_append, this]; simp; omega) ?_, grown_newE w _ _, .inr fun g hg => ?_⟩⟩
    · rw [Array.toList_append, List.take_left' (by simp), List.map_append]
    · rw [blk_posE (by omega)] at hg
      cases hg
      exact Nat.le_refl _
theorem append_es (B Bv : Nat) (s u : Value) (xs ys : List El) (w : World) (hB : B ≤ w.heap.size) (hr : RowE w B s xs) (hu : RowE w Bv u ys) (hbig : (xs.length + ys.length) * 2 ≤ 140737488355328) :
    ∃ s' w', (∀ ty, (Builtin.append_ #[24, 24] ty #[s, u]).run Try.prog w = .ok s' w') ∧ TurnedE w w' B s s' (xs ++ ys) :=
  append_src B s u xs ys w hB hr (src_of_row (P := Try.prog) hu Try.underlying24 (cellsE_one ys)) hbig
/-- an append in a walk, where there is such a run -/
theorem wpList_appendE {w : World} {ops : Array Oper} {rest : List Oper} {o : Oper} {a : Act} {Q : Exit → Act → World → Prop} (hgd : o.guard = none) (s x : Operand) (t tn : TypeId)
    (ho : o.op = .call { callee := .builtin .append, args := #[s, x], argTypes := #[t, tn] }) (vs vx : Value) (hs : a.eval s = vs) (hx : a.eval x = vx) {Post : Value → World → Prop}
    (hr : ∃ v' w', (∀ ty, (Builtin.append_ #[t, tn] ty #[vs, vx]).run Try.prog w = .ok v' w') ∧ Post v' w') (h : ∀ v' w', Post v' w' → wpList Try.prog ops Q rest (a.put o.dst v') w') : wpList Try.prog ops Q (o :: rest) a w := by
  obtain ⟨v', w', h1, h2⟩ := hr
  exact Lib.wpList_append_run w hgd s x t tn ho vs vx hs hx v' w' (h1 _) (h v' w' h2)
end Go.Proofs.Ytokillomaemocaa.VW
/-
  Blocks that are numbered in the order in which they are met: in memory, and by the program.
-/
namespace Go.Proofs.Ytokillomaemocaa.VW
open Go.RowKit Go.PlainAid Go.Lib Go.PRow Go.Maps Go.TrM
set_option linter.unusedVariables false
set_option linter.unusedSimpArgs false

theorem hide {p : Prop} (h : p) : Hid p := h
theorem unhide {p : Prop} (h : Hid p) : p := h
/-- the numbered blocks bs lie at bn: their map at m, their values at v -/
structure NumAt (w : World) (B bn m : Nat) (v : Value) (bs : List (List El)) : Prop where
  hn : w.heap[bn]? = some (.cells #[.map (some m), v] 170 (0, 0))
  hm : BMap w m bs
  hv : RowE w B v bs.flatten
  bB : B ≤ bn
  mB : B ≤ m
theorem NumAt.ne {w : World} {B bn m : Nat} {v : Value} {bs : List (List El)} (h : NumAt w B bn m v bs) : bn ≠ m := by
  intro e
  obtain ⟨⟨es, c, hb, r⟩, q⟩ := h.hm
  have := h.hn
  rw [e, hb] at this
  cases this
theorem NumAt.lt {w : World} {B bn m : Nat} {v : Value} {bs : List (List El)} (h : NumAt w B bn m v bs) : bn < w.heap.size ∧ m < w.heap.size := ⟨(Array.getElem?_eq_some_iff.1 h.hn).1, h.hm.lt⟩
theorem NumAt.row {w : World} {B bn m : Nat} {v : Value} {bs : List (List El)} (h : NumAt w B bn m v bs) : ∀ g, blk v = some g → g ≠ bn ∧ g ≠ m ∧ B ≤ g ∧ g < w.heap.size := by
  intro g hg
  obtain ⟨h1, h2⟩ := h.hv.lt g hg
  refine ⟨?_, ?_, h1, h2⟩
  · rintro rfl
    rcases h.hv.2 with ⟨a, rfl, _⟩ | ⟨g', cap, cur, rfl, _, hh, _⟩
    · rw [blk_zero] at hg; cases hg
    · cases cap with
      | zero => rw [blk_zero] at hg; cases hg
      | succ c =>
        cases hg
        have := h.hn
        rw [hh] at this
        simp at this
  · rintro rfl
    obtain ⟨⟨es, c, hb, r⟩, q⟩ := h.hm
    rcases h.hv.2 with ⟨a, rfl, _⟩ | ⟨g', cap, cur, rfl, _, hh, _⟩
    · rw [blk_zero] at hg; cases hg
    · cases cap with
      | zero => rw [blk_zero] at hg; cases hg
      | succ c =>
        cases hg
        rw [hh] at hb
        cases hb
theorem NumAt.keep {w w' : World} {B bn m : Nat} {v : Value} {bs : List (List El)} (h : NumAt w B bn m v bs) (h1 : w'.heap[bn]? = w.heap[bn]?) (h2 : w'.heap[m]? = w.heap[m]?) (h3 : ∀ g, blk v = some g → w'.heap[g]? = w.heap[g]?) : NumAt w' B bn m v bs :=
  ⟨h1.trans h.hn, h.hm.same h2, h.hv.kept h3, h.bB, h.mB⟩
theorem NumAt.below {w w' : World} {B bn m : Nat} {v : Value} {bs : List (List El)} (h : NumAt w B bn m v bs) (hb : Below w.heap.size w w') : NumAt w' B bn m v bs :=
  h.keep (hb.block _ h.lt.1) (hb.block _ h.lt.2) fun g hg => hb.block _ (h.row g hg).2.2.2
/-- what is done to them leaves all else -/
def NumK (w w' : World) (bn m : Nat) (v v' : Value) : Prop := w.heap.size ≤ w'.heap.size ∧ (∀ i, i < w.heap.size → i ≠ bn → i ≠ m → some i ≠ blk v → w'.heap[i]? = w.heap[i]?) ∧ (blk v' = blk v ∨ ∀ g, blk v' = some g → w.heap.size ≤ g)
theorem info64 : (Try.prog.info? 211).map (·.size) = some 64 := by kernel_rfl
theorem load64 (w : World) (g o : Nat) (b : List El) (hb : b.length = 64) (h : ∀ j x, b[j]? = some x → w.cell? ⟨g, o + j, none⟩ = some (enc x)) :
    (Instr.loadAt 211 (.pointer (some ⟨g, o, none⟩))).run Try.prog w = .ok (.agg (b.map enc).toArray) w := by
  have := run_loadCells_list (P := Try.prog) w ⟨g, o, none⟩ (b.map enc) (fun j v hv => by
    rw [List.getElem?_map] at hv
    cases hx : b[j]? with
    | none => rw [hx] at hv; cases hv
    | some x =>
      rw [hx] at hv
      cases hv
      rw [Addr.add_lit]
      exact h j x hx)
  have hs : (b.map enc).length = 64 := by simp [hb]
  rw [hs] at this
  have hag : (isAgg 211).run Try.prog w = .ok true w := by kernel_rfl
  have hso : (sizeOf 211).run Try.prog w = .ok 64 w := by kernel_rfl
  simp only [Instr.loadAt, Instr.sureAddr, Sem.run_bind, Sem.run_pure, Result.andThen, loadVar, hag, hso, this, if_true]
theorem arrayAt64 (w : World) (a : Option Addr) (c : Nat) : (Instr.arrayAt 211 (.slice a 64 c)).run Try.prog w = .ok (.pointer a) w := by
  have h := Try.underlying211
  simp [Instr.arrayAt, run_underlying h]
theorem store64 (w : World) (b : List El) (hb : b.length = 64) (Z : Array Value) (hZ : Z.size = 64) : (Instr.storeAt 211 (.pointer (some ⟨w.heap.size, 0, none⟩)) (.agg (b.map enc).toArray)).run Try.prog (w.alloc (.cells Z 211)) = .ok () (w.alloc (.cells (b.map enc).toArray 211)) :=
  run_storeAt_new w 211 _ _ (by rw [info64]; simp [hb]) (by simp [hb, hZ]) (by rw [List.all_toArray, List.all_eq_true]; exact cellsE_one b)
theorem cell2 {w : World} {bn : Nat} {x y : Value} {t : TypeId} (h : w.heap[bn]? = some (.cells #[x, y] t (0, 0))) : w.cell? ⟨bn, 0, none⟩ = some x ∧ w.cell? ⟨bn, 1, none⟩ = some y := by
  constructor <;> simp [World.cell?, h]
theorem heap_setCell {w : World} {bn : Nat} {x y z : Value} {t : TypeId} (h : w.heap[bn]? = some (.cells #[x, y] t (0, 0))) : (w.setCell ⟨bn, 1, none⟩ z).heap[bn]? = some (.cells #[x, z] t (0, 0)) := by
  simp only [World.setCell, Array.getElem?_modify, if_true, h, Option.map_some]
  rfl
set_option maxRecDepth 100000 in
set_option maxHeartbeats 2000000 in
theorem number_any (w : World) (B bn m : Nat) (v : Value) (bs : List (List El)) (h : NumAt w B bn m v bs) (g o c : Nat) (b : List El) (hb : OkB b) (hc : ∀ j x, b[j]? = some x → w.cell? ⟨g, o + j, none⟩ = some (enc x)) (hl : bs.length ≤ 17408) :
    Calls Try.prog 95 #[.pointer (some ⟨bn, 0, none⟩), .slice (some ⟨g, o, none⟩) 64 c] w fun e w' => e = .returned (.int .u16 ((numS bs b).2 : Int)) ∧ ∃ v', NumAt w' B bn m v' (numS bs b).1 ∧ NumK w w' bn m v v' ∧ Below B w w' := by
  have hBs : B ≤ w.heap.size := Nat.le_trans h.bB (Nat.le_of_lt h.lt.1)
  have hld := load64 w g o b hb.1 hc
  have har := arrayAt64 w (some ⟨g, o, none⟩) c
  have hst := store64 w b hb.1
  have hKs : (b.map enc).toArray.size = 64 := by simp [hb.1]
  obtain ⟨W, hW⟩ : ∃ W, w.alloc (.cells (b.map enc).toArray 211) = W := ⟨_, rfl⟩
  have hbW : Below w.heap.size w W := by rw [← hW]; exact (Below.refl _ w).alloc (Nat.le_refl _) _
  have hWs : W.heap.size = w.heap.size + 1 := by rw [← hW]; simp
  have hk2 : ∀ j x, b[j]? = some x → W.cell? ⟨w.heap.size, 0 + j, none⟩ = some (enc x) := fun j x hx => by
    rw [← hW, Nat.zero_add]
    simp only [World.cell?, heap_alloc_last]
    have : (b.map enc)[j]? = some (enc x) := by rw [List.getElem?_map, hx]; rfl
    simpa using this
  simp only [hW] at hst
  have hN := h.below hbW
  have hlook := hN.hm.look hb
  obtain ⟨c0, c1⟩ := cell2 hN.hn
  have hcB : ∀ j x, b[j]? = some x → W.cell? ⟨g, o + j, none⟩ = some (enc x) := fun j x hx => (hbW.cell (World.block_lt_of_cell? _ _ (hc j x hx))).trans (hc j x hx)
  have HLD2 := hide (fun W' (he : W'.heap = W.heap) => load64 W' w.heap.size 0 b hb.1 (fun j x hx => by have := hk2 j x hx; simp only [World.cell?, he] at this ⊢; exact this))
  have HLK := hide (fun W' (he : W'.heap = W.heap) => (hN.hm.same (w' := W') (by rw [he])).look hb)
  have hN1 : NumAt W.drew B bn m v bs := hN.keep rfl rfl fun _ _ => rfl
  have HBW := hide (hbW.drew)
  have HLD := hide hld
  have HAR := hide har
  have HST := hide hst
  have HSZ := hide hWs
  by_cases hm : b ∈ bs
  · have e1 : (numS bs b).1 = bs := by rw [numS_yes hm]
    rw [e1]
    clear e1
    simp only [if_pos hm, decide_eq_true hm] at HLK
    generalize hix : ((numS bs b).2 : Int) = ix at *
    have HN := hide hN1
    generalize hK : (b.map enc).toArray = K at *
    clear hix hK hN hbW hWs hcB hc hb h hl hld har hst hKs hk2 hm hlook hN1
    have hlook := unhide HLK W.drew rfl
    go_enter Try.func95, Try.ntmps95
    go_wp2_with (first
      | (refine TrSt.wpList_arr rfl (some 10) rfl _ _ rfl _ rfl (unhide HAR) ?_)
      | (refine TrSt.wpList_ld rfl (some 11) rfl 211 _ rfl _ rfl (unhide HLD) ?_)
      | (refine TrSt.wpList_st rfl rfl 211 _ _ rfl _ _ rfl rfl (unhide HST _ rfl) ?_))
    refine TrSt.region_still (by kernel_rfl) (by kernel_rfl) ?_
    still_step
    still_step
    still_step
    still_step
    refine TrSt.wpStill_ld rfl (some 17) rfl 211 _ rfl _ rfl (unhide HLD2 _ rfl) ?_
    repeat still_step
    refine wpStill_nil ?_
    go_wp2
    go_ret
    exact ⟨rfl, v, unhide HN, ⟨by show w.heap.size ≤ W.heap.size; rw [unhide HSZ]; omega, fun i hi _ _ _ => (unhide HBW).block i hi, .inl rfl⟩, (unhide HBW).mono hBs⟩
  · rw [numS_no hm]
    simp only [if_neg hm, decide_eq_false hm] at HLK
    have hlen := hN1.hm.len
    replace hN1 : NumAt W.drew.drew B bn m v bs := hN1.keep rfl rfl fun _ _ => rfl
    obtain ⟨W2, hup, hm2, hg2⟩ := hN1.hm.put hb hm (by omega)
    have hn2 : W2.heap[bn]? = some (.cells #[.map (some m), v] 170 (0, 0)) := (hg2.block bn hN1.lt.1 (fun e => hN1.ne (by injection e))).trans hN1.hn
    obtain ⟨d0, d1⟩ := cell2 hn2
    have hv2 : RowE W2 B v bs.flatten := hN1.hv.kept fun g hg => hg2.block g (hN1.row g hg).2.2.2 (fun e => (hN1.row g hg).2.1 (by injection e))
    have hWs2 : W.heap.size ≤ W2.heap.size := hg2.size
    have hmg : g ≠ m := by
      rintro rfl
      obtain ⟨⟨es, cl, hb', r⟩, q⟩ := h.hm
      have hx := hc 0 (b[0]'(by rw [hb.1]; decide)) (List.getElem?_eq_getElem (by rw [hb.1]; decide))
      simp [World.cell?, hb'] at hx
    have hsrc : Src Try.prog 1 24 (.slice (some ⟨g, o, none⟩) 64 c) b.length (b.map enc) W2 := by
      rw [hb.1]
      refine Src.ofSlice W2 Try.underlying24 ⟨g, o, none⟩ 64 c (b.map enc) (by simp [hb.1]) (fun j u hj => ?_) (cellsE_one b)
      rw [Addr.add_lit]
      rw [List.getElem?_map] at hj
      cases hx : b[j]? with
      | none => rw [hx] at hj; cases hj
      | some x =>
        rw [hx] at hj
        cases hj
        have hx' := hcB j x hx
        have hlt := World.block_lt_of_cell? _ _ hx'
        have := hg2.block g hlt (fun e => hmg (by injection e))
        simp only [World.cell?, this] at hx' ⊢
        exact hx'
    have hfl := flat_len bs (fun b hb => (hN1.hm.2.2 b hb).1)
    have HAP := hide (append_src B v (.slice (some ⟨g, o, none⟩) 64 c) bs.flatten b W2 (Nat.le_trans hBs (Nat.le_trans (by rw [hWs]; omega) hWs2)) hv2 hsrc (by rw [hfl, hb.1]; omega))
    have HN2 := hide (And.intro hn2 hm2)
    have HG2 := hide hg2
    have HV2 := hide hv2
    have HN1 := hide hN1
    have hcv : IntKind.u16.wrap (bs.length : Int) = (bs.length : Int) := by rw [IntKind.wrap_u16]; omega
    have HW2 := hide hWs2
    generalize hL : (bs.length : Int) = L at *
    have HL := hide hL
    have HUP := hide hup
    generalize hK : (b.map enc).toArray = K at *
    clear hL hK hN hbW hWs hcB hc hb hl hld har hst hKs hk2 hm hlook hN1 hn2 hm2 hg2 hv2 hWs2 hsrc hfl
    have hlook := unhide HLK W.drew rfl
    go_enter Try.func95, Try.ntmps95
    go_wp2_with (first
      | (refine TrSt.wpList_arr rfl (some 10) rfl _ _ rfl _ rfl (unhide HAR) ?_)
      | (refine TrSt.wpList_ld rfl (some 11) rfl 211 _ rfl _ rfl (unhide HLD) ?_)
      | (refine TrSt.wpList_st rfl rfl 211 _ _ rfl _ _ rfl rfl (unhide HST _ rfl) ?_))
    refine TrSt.region_still (by kernel_rfl) (by kernel_rfl) ?_
    still_step
    still_step
    still_step
    still_step
    refine TrSt.wpStill_ld rfl (some 17) rfl 211 _ rfl _ rfl (unhide HLD2 _ rfl) ?_
    repeat still_step
    refine wpStill_nil ?_
    go_wp2
    refine TrSt.region_tail 6 (by kernel_rfl) (by kernel_rfl) ?_
    simp only [List.take_succ_cons, List.take_zero, List.drop_succ_cons, List.drop_zero]
    still_step
    still_step
    still_step
    still_step
    refine TrSt.wpStill_ld rfl (some 33) rfl 211 _ rfl _ rfl (unhide HLD2 _ rfl) ?_
    still_step
    refine wpStill_nil ?_
    refine TrSt.wpList_up rfl rfl 168 _ _ _ rfl _ _ _ rfl rfl rfl (unhide HUP) ?_
    go_wp2_with (at_builtin; refine wpList_appendE rfl _ _ _ _ rfl _ _ rfl rfl (unhide HAP) ?_; rintro v' w3 ht; obtain ⟨a', n', cap', rfl⟩ : ∃ a' n' cap', v' = Value.slice a' n' cap' := by { obtain ⟨a, c, e, _⟩ := ht.1.form; exact ⟨a, _, c, e⟩ }; have hn3 := (ht.2.1.block bn (Array.getElem?_eq_some_iff.1 (unhide HN2).1).1 (fun e => ((unhide HN1).row bn e.symm).1 rfl)).trans (unhide HN2).1; obtain ⟨e0, e1⟩ := cell2 hn3; have ef : w3.frozen? ⟨bn, 1, none⟩ = false := by { simp [World.frozen?, hn3] }; have HN3 := hide (And.intro ht hn3); clear ht hn3)
    go_ret
    obtain ⟨ht, hn3⟩ := unhide HN3
    have hN1 := unhide HN1
    obtain ⟨hn2, hm2⟩ := unhide HN2
    have hg2 := unhide HG2
    have hm3 : BMap w3 m (bs ++ [b]) := hm2.same (ht.2.1.block m hm2.lt (fun e => (hN1.row m e.symm).2.1 rfl))
    have hb3 : bn < w3.heap.size := (Array.getElem?_eq_some_iff.1 hn3).1
    have hne : ∀ k, k ≠ bn → ∀ z, (w3.setCell ⟨bn, 1, none⟩ z).heap[k]? = w3.heap[k]? := fun k hk z => by
      simp only [World.setCell, Array.getElem?_modify]
      rw [if_neg (fun e => hk e.symm)]
    have hmb : m ≠ bn := fun e => hN1.ne e.symm
    have hsz2 : W.heap.size ≤ W2.heap.size := unhide HW2
    have hsz3 : W2.heap.size ≤ w3.heap.size := ht.2.1.size
    have hsz1 : W.heap.size = w.heap.size + 1 := unhide HSZ
    have hblk : ∀ g', blk (.slice a' n' cap') = some g' → g' ≠ bn := fun g' hg' e => by
      subst e
      rcases ht.2.2 with hh | hh
      · exact (hN1.row g' (hh ▸ hg')).1 rfl
      · have := hh g' hg'
        have := (Array.getElem?_eq_some_iff.1 hn2).1
        omega
    refine ⟨by rw [← unhide HL]; rfl, .slice a' n' cap', ⟨heap_setCell hn3, hm3.same (hne m hmb _), ?_, hN1.bB, hN1.mB⟩, ⟨?_, ?_, ?_⟩, ?_⟩
    · rw [List.flatten_append, List.flatten_singleton]
      exact ht.1.kept fun g' hg' => hne g' (hblk g' hg') _
    · rw [World.size_setCell]; omega
    · intro i hi h1 h2 h3
      rw [hne i h1]
      rw [ht.2.1.block i (by omega) h3, hg2.block i (by show i < W.heap.size; omega) (fun e => h2 (by injection e))]
      exact (unhide HBW).block i hi
    · rcases ht.2.2 with hh | hh
      · exact .inl hh
      · exact .inr fun g' hg' => by have := hh g' hg'; omega
    · have q1 := ((unhide HBW).mono hBs).drew
      have q2 := q1.grown hg2 (by show B ≤ W.heap.size; omega) (fun k hk => by injection hk with hk; rw [← hk]; exact hN1.mB)
      have q3 := q2.grown ht.2.1 (by omega) (fun k hk => (hN1.row k hk).2.2.1)
      exact q3.setCell hN1.bB _
theorem newNum_any (w : World) (B : Nat) (hB : B ≤ w.heap.size) : Calls Try.prog 93 #[] w fun e w' => e = .returned (.pointer (some ⟨w.heap.size + 1, 0, none⟩)) ∧ NumAt w' B (w.heap.size + 1) w.heap.size (.slice none 0 0) [] ∧ w'.heap.size = w.heap.size + 2 ∧ Below w.heap.size w w' := by
  have hmk : ∀ w : World, (Instr.makeMap 168 none).run Try.prog w = .ok (.map (some w.heap.size)) (w.alloc (.map #[] 0)) := fun w => by
    simp [Instr.makeMap, run_underlying Try.underlying168, Result.andThen]
  go_enter Try.func93, Try.ntmps93
  go_wp2
  go_ret
  refine ⟨rfl, ⟨?_, (BMap.new w).same (Below.heap_alloc _ _ _ (by simp)), RowV.nil _ _ _ _ _, by omega, hB⟩, by simp, ((Below.refl _ w).alloc (Nat.le_refl _) _).alloc (by simp) _⟩
  have := heap_alloc_new (w.alloc (.map #[] 0)) (.cells #[.map (some w.heap.size), .slice none 0 0] 170)
  rw [World.size_alloc] at this
  exact this
end Go.Proofs.Ytokillomaemocaa.VW
