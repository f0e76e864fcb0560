/-
  For LinesApart: a row appended to a row; lines that get other numbers.
-/
import Derived.Test.YtlaennakglhmjaaGreatDoorRApM2
import Derived.Test.YtlaennakglhmjaaGreatDoorLSameAll
import Derived.Deep.Upon
import Derived.Maps.AppendAt
namespace Go.Proofs.YtlaennakglhmjaaGreatDoor
open Go.RowKit Go.PlainAid Go.Lib Go.Shelf
set_option linter.unusedVariables false

theorem append_rows {P : Program} (w : World) (base base' : Nat) (t ty e : TypeId) (i : TypeInfo) (z : Value) (size bytes : Nat) (ht : P.underlying t = some (.slice e)) (hi : P.info? e = some i) (hz : i.zero = some z)
    (hsize : i.size = size) (hby : i.bytes = bytes) (hzs : z.cells.size = size) (hsz : 0 < size)
    (v : Value) (n : Nat) (xs : List Value) (hown : w.ownsRow base e size v n xs) (v2 : Value) (m : Nat) (ys : List Value) (hown2 : w.ownsRow base' e size v2 m ys) (h1 : ∀ u ∈ ys, u.oneCell' = true)
    (h63 : n + m ≤ maxLen) (hbytes : (n + m) * bytes ≤ 140737488355328) (hbase : base ≤ w.heap.size) :
    ∃ v' w', (Builtin.append_ #[t, t] ty #[v, v2]).run P w = .ok v' w' ∧ w'.ownsRow base e size v' (n + m) (xs ++ ys) ∧ w.grownBy w' v.ownBlock := by
  rcases hown2.2 with ⟨rfl, rfl⟩ | ⟨g, cap, cur, rfl, hg1, hg2, hg3, hg4, hg5, hg6⟩
  · have hys : ys = [] := List.eq_nil_of_length_eq_zero (by have := hown2.1; omega)
    subst hys
    have hv : ∃ b c, v = .slice b n c ∧ n ≤ c := by
      rcases hown.2 with ⟨rfl, rfl⟩ | ⟨g, cap, cur, rfl, _, _, h, _⟩
      · exact ⟨_, _, rfl, Nat.le_refl _⟩
      · exact ⟨_, _, rfl, h⟩
    obtain ⟨b, c, rfl, hc⟩ := hv
    refine ⟨_, _, run_append_nothing w t t ty e i ht hi b n c hc _ (Src.ofNil w ht 0), ?_, World.grownBy.refl _ _⟩
    rw [List.append_nil, Nat.add_zero]; exact hown
  · obtain ⟨v', w', r1, r2, r3, _⟩ := run_append_own_at (P := P) (w := w) base t ty e i z size bytes ht hi hz hsize hby hzs hsz v n xs hown ⟨g, 0, none⟩ m cap ys hown2.1 (hown2.cells rfl) h1 h63 hbytes hbase
    exact ⟨v', w', r1, r2, r3⟩

theorem wpList_append_rows {P : Program} {w : World} {ops : Array Oper} {rest : List Oper} {o : Oper} {a : Act} {Q : Exit → Act → World → Prop} (hgd : Region.wanted o (yielded ops a.tmps) = true) (s x : Operand) (t : TypeId)
    (ho : o.op = .call { callee := .builtin .append, args := #[s, x], argTypes := #[t, t] })
    (base base' : Nat) (e : TypeId) (i : TypeInfo) (z : Value) (size bytes : Nat) (ht : P.underlying t = some (.slice e)) (hi : P.info? e = some i) (hz : i.zero = some z)
    (hsize : i.size = size) (hby : i.bytes = bytes) (hzs : z.cells.size = size) (hsz : 0 < size)
    (v : Value) (n : Nat) (xs : List Value) (hs : a.eval s = v) (hown : w.ownsRow base e size v n xs) (v2 : Value) (m : Nat) (ys : List Value) (hx : a.eval x = v2) (hown2 : w.ownsRow base' e size v2 m ys) (h1 : ∀ u ∈ ys, u.oneCell' = true)
    (h63 : n + m ≤ maxLen) (hbytes : (n + m) * bytes ≤ 140737488355328) (hbase : base ≤ w.heap.size)
    (h : ∀ v' w', w'.ownsRow base e size v' (n + m) (xs ++ ys) → w.grownBy w' v.ownBlock → wpList P ops Q rest (a.put o.dst v') w') :
    wpList P ops Q (o :: rest) a w := by
  obtain ⟨v', w', hr, h2, h3⟩ := append_rows (P := P) w base base' t o.type e i z size bytes ht hi hz hsize hby hzs hsz v n xs hown v2 m ys hown2 h1 h63 hbytes hbase
  show (if Region.wanted o (yielded ops a.tmps) then _ else _)
  rw [if_pos hgd]
  refine .inl ?_
  unfold Oper.wp execOp
  simp only [ho, resolve, invoke, builtin, Sem.run_bind, Sem.run_pure, Result.andThen_ok, List.map_toArray, List.map_cons, List.map_nil, hs, hx, hr]
  exact h v' w' h2 h3

/-- the first i lines with numbers that are k more -/
def bump (k : Int) (p : LineD × Value) : LineD × Value := (withNo p.1 (p.1.no + k), p.2)
def bumped (k : Int) (i : Nat) (ps : List (LineD × Value)) : List (LineD × Value) := (ps.take i).map (bump k) ++ ps.drop i
theorem bumped_len (k : Int) (i : Nat) (ps : List (LineD × Value)) : (bumped k i ps).length = ps.length := by
  unfold bumped; simp; omega
theorem bumped_at (k : Int) (i : Nat) (ps : List (LineD × Value)) (p : LineD × Value) (h : ps[i]? = some p) : (bumped k i ps)[i]? = some p := by
  unfold bumped
  have hi := (List.getElem?_eq_some_iff.1 h).1
  rw [List.getElem?_append_right (by simp; omega)]
  simp only [List.length_map, List.length_take, List.getElem?_drop]
  rw [show i + (i - min i ps.length) = i by omega]; exact h
theorem lineCells_app (a b : List (LineD × Value)) : lineCells (a ++ b) = lineCells a ++ lineCells b := by simp [lineCells]
theorem lineCells_len (a : List (LineD × Value)) : (lineCells a).length = a.length * 5 := by
  induction a with
  | nil => rfl
  | cons p a ih =>
    have : lineCells (p :: a) = [.int .i64 p.1.no, .int .u8 p.1.kind, .string (S p.1.name), p.2, .string (S p.1.note)] ++ lineCells a := rfl
    rw [this, List.length_append, ih]; simp; omega
theorem bumped_set (k : Int) (i : Nat) (ps : List (LineD × Value)) (p : LineD × Value) (h : ps[i]? = some p) : (lineCells (bumped k i ps)).set (i * 5) (.int .i64 (p.1.no + k)) = lineCells (bumped k (i + 1) ps) := by
  have hi := (List.getElem?_eq_some_iff.1 h).1
  have hp : ps[i] = p := (List.getElem?_eq_some_iff.1 h).2
  unfold bumped
  rw [List.drop_eq_getElem_cons hi, hp, List.take_add_one, h]
  simp only [Option.toList_some, List.map_append, List.map_cons, List.map_nil, List.append_assoc, List.cons_append, List.nil_append]
  rw [lineCells_app, lineCells_app]
  have hl : (lineCells ((ps.take i).map (bump k))).length = i * 5 := by rw [lineCells_len]; simp; omega
  rw [List.set_append_right _ _ (by omega), hl, Nat.sub_self]
  rfl
theorem bumped_all (k : Int) (ps : List (LineD × Value)) : bumped k ps.length ps = ps.map (bump k) := by
  unfold bumped; simp
theorem bumped_none (k : Int) (ps : List (LineD × Value)) : bumped k 0 ps = ps := by
  unfold bumped; simp
theorem bumped_texts {V : World} {base : Nat} {k : Int} {i : Nat} {ps : List (LineD × Value)} (h : ∀ p ∈ ps, TextsAt V base p.2 p.1.fields) : ∀ p ∈ bumped k i ps, TextsAt V base p.2 p.1.fields := by
  intro p hp
  unfold bumped at hp
  rcases List.mem_append.1 hp with h1 | h1
  · obtain ⟨q, hq, rfl⟩ := List.mem_map.1 h1
    exact h q (List.mem_of_mem_take hq)
  · exact h p (List.mem_of_mem_drop h1)
theorem lineCells_one {V : World} {base : Nat} (ps : List (LineD × Value)) (h : ∀ p ∈ ps, TextsAt V base p.2 p.1.fields) : ∀ u ∈ lineCells ps, u.oneCell' = true := by
  intro u hu
  unfold lineCells at hu
  obtain ⟨p, hp, hu⟩ := List.mem_flatMap.1 hu
  simp only [List.mem_cons, List.not_mem_nil, or_false] at hu
  obtain ⟨a, c, e⟩ := row_slice2 (h p hp)
  rcases hu with rfl | rfl | rfl | rfl | rfl
  · rfl
  · rfl
  · rfl
  · rw [e]; rfl
  · rfl
theorem read_nos (s : ByteArray) (h : (readS s).2 = none) : ∀ d ∈ (readS s).1, ∃ n : Nat, d.no = (n : Int) ∧ n ≤ s.size + 1 ∧ d.fields.length ≤ s.size + 1 := by
  unfold readS at h ⊢
  rcases rd_cases s (linesL s) with hok | ⟨p, x, r, hp, h1, h2⟩
  · rw [rd_ok s _ hok]
    intro d hd
    obtain ⟨x, hx, rfl⟩ := List.mem_map.1 hd
    have hm := lines_mem s x hx
    refine ⟨x.1, scan_number _ _ (hok x hx), hm.2.2.2, ?_⟩
    have hl := scan_len (x.1 : Nat) (s.extract x.2.1 x.2.2)
    have hsz : (s.extract x.2.1 x.2.2).size ≤ s.size := by
      rw [← L_len, L_extract, List.length_take, List.length_drop, L_len]; omega
    have : (scanX s x).1 = (scanS (x.1 : Nat) (s.extract x.2.1 x.2.2)).1 := rfl
    rw [this]
    omega
  · rw [hp, rd_bad s p r x h1 h2] at h; cases h
theorem read_num (s : ByteArray) (no : Nat) (code : Int) (h : (readS s).2 = some (no, code)) : no ≤ s.size + 1 := by
  unfold readS at h
  rcases rd_cases s (linesL s) with hok | ⟨p, x, r, hp, h1, h2⟩
  · rw [rd_ok s _ hok] at h; cases h
  · rw [hp, rd_bad s p r x h1 h2] at h
    obtain ⟨rfl, rfl⟩ : x.1 = no ∧ (scanX s x).2 = code := by
      have := Option.some.inj h
      exact ⟨congrArg Prod.fst this, congrArg Prod.snd this⟩
    exact (lines_mem s x (by rw [hp]; simp)).2.2.2
end Go.Proofs.YtlaennakglhmjaaGreatDoor
