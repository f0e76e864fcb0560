/-
  A map whose keys are blocks of 64 values, and whose elements are their numbers, in memory.
-/
import Derived.Test.YtokillomaemocaaTrM
import Derived.Test.YtokillomaemocaaChecked
import Derived.WideKeyPair
import Derived.Maps.OwnSet
import Derived.WalkSpells
import Derived.PlainAid
namespace Go.Proofs.Ytokillomaemocaa.VU
open Go.RowKit Go.Maps Go.TrM
set_option linter.unusedVariables false
set_option linter.unusedSimpArgs false

abbrev El := Int
abbrev enc (x : El) : Value := .int .u8 x
abbrev lit (x : El) : Lit := .int .u8 x
abbrev zeroE : Value := .int .u8 0
def okE (x : El) : Prop := (Lit.int .u8 x).wf = true
theorem enc_inj {a b : El} (h : enc a = enc b) : a = b := by simpa [enc] using h
theorem lits_one (m : Nat) (x : El) (h : okE x) : Try.prog.keyLits (m + 1) 5 [enc x] = some ([x].map lit) := by
  unfold Program.keyLits
  rw [Try.underlying5]
  simp only [enc]
  rw [if_pos ⟨trivial, h⟩]
  rfl

theorem key_inj {P : Program} {k e : TypeId} {n : Nat} (A : WideMaps.ArrKey P k e n) {a b : Value} {l : Lit} (ha : keyOf P k a = some l) (hb : keyOf P k b = some l) : a = b := keyOf_inj_deep A.tiled A.wide ha hb
theorem arrKey : WideMaps.ArrKey Try.prog 245 5 64 := ⟨Try.underlying245, by kernel_rfl, by kernel_rfl, by kernel_rfl⟩
theorem keyedB : Keyed Try.prog 245 := Keyed.of_law arrKey.law
theorem encs_inj : ∀ {a b : List El}, a.map enc = b.map enc → a = b := by
  intro a
  induction a with
  | nil => intro b h; cases b with | nil => rfl | cons y b => simp at h
  | cons x a ih =>
    intro b h
    cases b with
    | nil => simp at h
    | cons y b =>
      simp only [List.map_cons, List.cons.injEq] at h
      rw [enc_inj h.1, ih h.2]
theorem mapM_some {α β : Type} (f : α → Option β) (g : α → β) : ∀ l : List α, (∀ i ∈ l, f i = some (g i)) → l.mapM f = some (l.map g) := by
  intro l
  induction l with
  | nil => intro _; rfl
  | cons a l ih =>
    intro h
    rw [List.mapM_cons, h a List.mem_cons_self, ih fun i hi => h i (List.mem_cons_of_mem _ hi)]
    rfl
/-- a block that may stand in memory -/
def OkB (b : List El) : Prop := b.length = 64 ∧ ∀ x ∈ b, okE x
theorem pieces_one (b : List El) : ∀ n, b.length = n → ((List.range n).map fun i => ((b.drop i).take 1).map lit).flatten = b.map lit := by
  induction b with
  | nil => intro n h; subst h; rfl
  | cons x b ih =>
    intro n h
    subst h
    rw [List.length_cons, List.range_succ_eq_map, List.map_cons, List.flatten_cons, List.map_map]
    have := ih b.length rfl
    simp only [List.drop_zero, List.take_succ_cons, List.take_zero, List.map_cons, List.map_nil, List.singleton_append]
    congr 1
theorem keyOf_b {b : List El} (h : OkB b) : keyOf Try.prog 245 (.agg (b.map enc).toArray) = some (.string (keyBytes (b.map lit))) := by
  have hsz : ∃ m, Try.prog.types.size = m + 1 := ⟨306 - 1, by kernel_rfl⟩
  have hkt := arrKey.keyType hsz
  obtain ⟨m, hm⟩ : ∃ m, Try.prog.types.size = m + 1 := hsz
  unfold keyOf
  simp only [arrKey.hu]
  rw [if_pos (by simp [hkt, Value.formed, arrKey.hu, arrKey.size, h.1]), hm]
  unfold Program.keyLits
  simp only [arrKey.hu, Value.cells]
  rw [if_pos (by rw [arrKey.size]; simp [h.1])]
  rw [mapM_some _ (fun i => ((b.drop i).take 1).map lit) (List.range 64) (by
    intro i hi
    have hi' : i < b.length := by rw [h.1]; exact List.mem_range.1 hi
    rw [arrKey.one, Nat.mul_one]
    have e1 : (b.drop i).take 1 = [b[i]] := by rw [List.drop_eq_getElem_cons hi']; rfl
    have e2 : ((b.map enc).toArray.toList.drop i).take 1 = [enc b[i]] := by
      rw [List.toList_toArray, ← List.map_drop, ← List.map_take, e1]; rfl
    rw [e2, e1]
    exact lits_one m _ (h.2 _ (List.getElem_mem hi')))]
  rw [Option.map_some, pieces_one b 64 h.1]
  rfl
def keyB (b : List El) : Lit := .string (keyBytes (b.map lit))
theorem keyB_inj {a b : List El} (ha : OkB a) (hb : OkB b) (h : keyB a = keyB b) : a = b := by
  have e1 := keyOf_b ha
  have e2 := keyOf_b hb
  rw [show Lit.string (keyBytes (a.map lit)) = Lit.string (keyBytes (b.map lit)) from h] at e1
  have := key_inj arrKey e1 e2
  have e3 : (a.map enc).toArray = (b.map enc).toArray := by injection this
  exact encs_inj (by simpa using congrArg Array.toList e3)
theorem isKeyB (b : List El) : WideAt.IsKeyLit (keyB b) := by unfold keyB; trivial
def mapF : DataW Unit → Nat → List (List El) → DataW Unit
  | D, _, [] => D
  | D, n, b :: bs => mapF (D.put (keyB b) (.lit (.int .u16 (n : Int)))) (n + 1) bs
def mapD (bs : List (List El)) : DataW Unit := mapF (.map []) 0 bs
theorem mapF_snoc : ∀ (bs : List (List El)) (D : DataW Unit) (n : Nat) (b : List El), mapF D n (bs ++ [b]) = (mapF D n bs).put (keyB b) (.lit (.int .u16 ((n + bs.length : Nat) : Int))) := by
  intro bs
  induction bs with
  | nil => intro D n b; rfl
  | cons c bs ih =>
    intro D n b
    simp only [List.cons_append, mapF, ih, List.length_cons]
    rw [show n + 1 + bs.length = n + (bs.length + 1) by omega]
theorem mapD_snoc (bs : List (List El)) (b : List El) : mapD (bs ++ [b]) = (mapD bs).put (keyB b) (.lit (.int .u16 (bs.length : Int))) := by
  unfold mapD; rw [mapF_snoc, Nat.zero_add]
theorem snocI {α : Type} {p : List α → Prop} (h0 : p []) (h1 : ∀ l x, p l → p (l ++ [x])) (l : List α) : p l := by
  have : ∀ m : List α, p m.reverse := by
    intro m
    induction m with
    | nil => exact h0
    | cons a m ih => rw [List.reverse_cons]; exact h1 _ _ ih
  simpa using this l.reverse
theorem mapD_all (bs : List (List El)) : (∀ b ∈ bs, OkB b) → bs.Nodup → Tidy (mapD bs) ∧ Maps.size (mapD bs) = bs.length ∧ (∀ b, OkB b → Maps.has (mapD bs) (keyB b) = decide (b ∈ bs)) ∧ ∀ b z, OkB b → (mapD bs).atKey (keyB b) z = if b ∈ bs then .lit (.int .u16 ((numS bs b).2 : Int)) else z := by
  induction bs using snocI with
  | h0 => exact fun _ _ => ⟨tidy_empty, rfl, fun b hb => by simp [mapD, mapF]; rfl, fun b z hb => by simp [mapD, mapF]; rfl⟩
  | h1 bs c ih =>
    intro hok hnd
    rw [List.nodup_append] at hnd
    obtain ⟨hnd1, _, hnd2⟩ := hnd
    have hc := hok c (by simp)
    have hcn : ¬ c ∈ bs := fun h => hnd2 c h c (by simp) rfl
    obtain ⟨i1, i2, i3, i4⟩ := ih (fun b hb => hok b (by simp [hb])) hnd1
    rw [mapD_snoc]
    refine ⟨i1.put (isKeyB c) _, ?_, fun b hb => ?_, fun b z hb => ?_⟩
    · rw [size_put i1, i3 c hc, i2]
      simp [hcn]
    · by_cases e : b = c
      · subst e
        rw [has_put_same i1.isMap (isKeyB b)]; simp
      · rw [has_put_other (fun h => e (keyB_inj hb hc h)), i3 b hb]
        simp [e]
    · by_cases e : b = c
      · subst e
        rw [atKey_put_same i1.isMap (isKeyB b)]
        rw [if_pos (by simp), numS_new hcn]
      · rw [atKey_put_other (fun h => e (keyB_inj hb hc h)), i4 b z hb]
        by_cases hm : b ∈ bs
        · rw [if_pos hm, if_pos (by simp [hm]), numS_old hm]
        · simp [hm, e]
/-- block m is a map of these blocks' numbers -/
def BMap (w : World) (m : Nat) (bs : List (List El)) : Prop := w.ownsMap (H := Unit) Try.prog 245 (plainElem Try.prog 34) m bs.length (mapD bs) ∧ bs.Nodup ∧ ∀ b ∈ bs, OkB b
theorem zero16 (w : World) : (zeroValue 34).run Try.prog w = .ok (.int .u16 0) w := by kernel_rfl
theorem BMap.look {w : World} {m : Nat} {bs : List (List El)} (h : BMap w m bs) {b : List El} (hb : OkB b) :
    (Instr.lookup 171 (.map (some m)) (.agg (b.map enc).toArray) true).run Try.prog w = .ok (.tuple #[.int .u16 (if b ∈ bs then ((numS bs b).2 : Int) else 0), .bool (decide (b ∈ bs))]) w := by
  obtain ⟨_, _, i3, i4⟩ := mapD_all bs h.2.2 h.2.1
  obtain ⟨v, ps, hrun, hv⟩ := World.ownsMap.look_ok h.1 keyedB Try.underlying171 (zero16 w) (plainElem_int Try.underlying34 (by decide)) (keyOf_b hb)
  rw [show Lit.string (keyBytes (b.map lit)) = keyB b from rfl, i3 b hb] at hrun
  rw [show Lit.string (keyBytes (b.map lit)) = keyB b from rfl, i4 b _ hb] at hv
  obtain ⟨c, rfl, hc, _⟩ := plainElem_int_inv Try.underlying34 hv
  have : c = (if b ∈ bs then ((numS bs b).2 : Int) else 0) := by
    simp only [Prod.mk.injEq] at hc
    by_cases hm : b ∈ bs
    · rw [if_pos hm] at hc ⊢; have := hc.1; simp at this; exact this.symm
    · rw [if_neg hm] at hc ⊢; have := hc.1; simp at this; exact this.symm
  rw [this] at hrun
  exact hrun
theorem BMap.len {w : World} {m : Nat} {bs : List (List El)} (h : BMap w m bs) (ty : TypeId) : (Builtin.len_ #[171] ty #[.map (some m)]).run Try.prog w = .ok (.int .i64 (bs.length : Int)) w := by
  have := World.ownsMap.len h.1 Try.underlying171 ty
  rw [(mapD_all bs h.2.2 h.2.1).2.1] at this
  exact this
theorem BMap.put {w : World} {m : Nat} {bs : List (List El)} (h : BMap w m bs) {b : List El} (hb : OkB b) (hn : ¬ b ∈ bs) (hl : bs.length ≤ 65535) :
    ∃ w', (Instr.mapUpdate 171 (.map (some m)) (.agg (b.map enc).toArray) (.int .u16 (bs.length : Int))).run Try.prog w = .ok () w' ∧ BMap w' m (bs ++ [b]) ∧ w.grownBy w' (some m) := by
  have hwf : (Lit.int .u16 (bs.length : Int)).wf = true := by
    have h1 : IntKind.u16.min = 0 := by decide
    have h2 : IntKind.u16.max = 65535 := by decide
    simp [Lit.wf, h1, h2]; omega
  obtain ⟨w', h1, h2, h3⟩ := World.ownsMap.update h.1 keyedB Try.underlying171 (by unfold maxLen; omega) (keyOf_b hb) (plainElem_int Try.underlying34 hwf)
  refine ⟨w', h1, ⟨?_, ?_, ?_⟩, h3⟩
  · rw [mapD_snoc, List.length_append]
    exact h2
  · rw [List.nodup_append]
    exact ⟨h.2.1, by simp, by rintro a ha c hc rfl; simp at hc; exact hn (hc ▸ ha)⟩
  · intro c hc
    rcases List.mem_append.1 hc with hc | hc
    · exact h.2.2 c hc
    · rcases List.mem_singleton.1 hc with rfl; exact hb
theorem BMap.kept {w w' : World} {row : Option Nat} {m : Nat} {l : List (List El)} (h : BMap w m l) (hg : w.grownBy w' row) (hne : some m ≠ row) : BMap w' m l := ⟨World.ownsMap.kept h.1 hg hne, h.2⟩
theorem BMap.lt {w : World} {m : Nat} {l : List (List El)} (h : BMap w m l) : m < w.heap.size := World.ownsMap.lt h.1
theorem BMap.same {w w' : World} {m : Nat} {l : List (List El)} (h : BMap w m l) (he : w'.heap[m]? = w.heap[m]?) : BMap w' m l := by
  obtain ⟨⟨es, c, hb, r⟩, q⟩ := h
  exact ⟨⟨es, c, he.trans hb, r⟩, q⟩
theorem BMap.below {w w' : World} {m : Nat} {l : List (List El)} (h : BMap w m l) (hb : Below w.heap.size w w') : BMap w' m l := h.same (hb.block m h.lt)
theorem BMap.new (w : World) : BMap (w.alloc (.map #[] 0)) w.heap.size [] := ⟨World.ownsMap_made w _ _ _, List.nodup_nil, fun b hb => by cases hb⟩
end Go.Proofs.Ytokillomaemocaa.VU
