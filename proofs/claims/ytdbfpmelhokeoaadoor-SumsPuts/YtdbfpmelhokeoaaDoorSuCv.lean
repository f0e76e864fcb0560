/-
  An append to the bytes of a text; a row of bytes that grows.
-/
import Derived.Test.YtdbfpmelhokeoaaDoorSuBy
import Derived.Test.YtdbfpmelhokeoaaDoorSuGr
namespace Go.Proofs.YtdbfpmelhokeoaaDoor
open Go.RowKit Go.PlainAid Go.Lib Go.SuM
set_option linter.unusedVariables false
set_option linter.unusedSimpArgs false
theorem run_storeCells_atG (P : Program) (g o : Nat) (t : TypeId) (fz : Nat × Nat) : ∀ (vs : List Value) (i : Nat) (cur : Array Value) (w : World), w.heap[g]? = some (.cells cur t fz) → cur.size ≤ fz.1 → o + i + vs.length ≤ cur.size → (∀ v ∈ vs, v.oneCell' = true) →
    (storeCells ⟨g, o, none⟩ vs i).run P w = .ok () (w.setRow g (cur.toList.take (o + i) ++ vs ++ cur.toList.drop (o + i + vs.length)).toArray)
  | [], i, cur, w, hg, _, _, _ => by
    simp only [storeCells, List.append_nil, List.length_nil, Nat.add_zero, List.take_append_drop, Array.toArray_toList]
    rw [setRow_self w g cur t fz hg]
    rfl
  | v :: rest, i, cur, w, hg, hfz, hl, h1 => by
    have hi : o + i < cur.size := by simp at hl; omega
    have hadd : (⟨g, o, none⟩ : Addr).add i = ⟨g, o + i, none⟩ := by unfold Addr.add; split <;> simp_all
    have hcell : w.cell? ⟨g, o + i, none⟩ = some cur[o + i] := by simp [World.cell?, hg, hi]
    have hfro : w.frozen? ⟨g, o + i, none⟩ = false := by
      obtain ⟨lo, hi'⟩ := fz
      simp only [World.frozen?, hg, Bool.and_eq_false_iff, decide_eq_false_iff_not]
      left
      simp only at hfz
      omega
    have hst : (store ((⟨g, o, none⟩ : Addr).add i) v).run P w = .ok () (w.setRow g (cur.setIfInBounds (o + i) v)) := by
      rw [hadd, run_store P w _ v _ (h1 v (by simp)), hcell]
      simp [hfro, setCell_eq_setRow w g (o + i) cur t fz v hg]
    have ih := run_storeCells_atG P g o t fz rest (i + 1) (cur.setIfInBounds (o + i) v) (w.setRow g (cur.setIfInBounds (o + i) v)) (setRow_heap w g cur _ t _ hg) (by simpa using hfz) (by simp at hl ⊢; omega) (fun x hx => h1 x (by simp [hx]))
    simp only [storeCells, Sem.run_bind, hst, Result.andThen_ok, ih, setRow_setRow]
    congr 3
    have e := list_seg_step cur.toList (o + i) v rest (by simp at hl ⊢; omega)
    simpa [Array.toList_setIfInBounds, Nat.add_assoc] using e
/-- what []byte(s) leaves -/
def CRow (w : World) (g cap : Nat) (l : List UInt8) : Prop := ∃ cur fr, w.heap[g]? = some (.cells cur 5 fr) ∧ cur.size = cap ∧ l.length ≤ cap ∧ cap ≤ maxLen ∧ cur.toList.take l.length = bytesV l ∧ cur.size ≤ fr.1
theorem CRow.alloc {w : World} {g cap : Nat} {l : List UInt8} (h : CRow w g cap l) (o : Obj) : CRow (w.alloc o) g cap l := by
  obtain ⟨cur, fr, h1, r⟩ := h
  exact ⟨cur, fr, (Below.heap_alloc w o g (Array.getElem?_eq_some_iff.1 h1).1).trans h1, r⟩
theorem conv_row (s : ByteArray) (hs : s.size ≤ maxLen) (w : World) : ∃ cap w', (convert 9 57 (.string s)).run Tryd.prog w = .ok (.slice (some ⟨w.heap.size, 0, none⟩) s.size cap) w' ∧ CRow w' w.heap.size cap (LS s) ∧ Below w.heap.size w w' := by
  have hge := grownCap_ge w s.size 0 5
  have hle := grownCap_le_maxLen w s.size 0 5 hs
  refine ⟨_, _, run_bytes_of_string (P := Tryd.prog) w 9 57 5 s Tryd.underlying9 Tryd.underlying57 Tryd.underlying5, ⟨_, _, heap_alloc_new w.drew _, ?_, ?_, hle, ?_, Nat.le_refl _⟩, ((Below.refl _ _).drew).alloc (Nat.le_refl _) _⟩
  · simp [bytesRow]
    have : s.data.size = s.size := rfl
    omega
  · rw [LS_len]; exact hge
  · rw [LS_len]
    simp [bytesRow, LS, bytesV, byV]
theorem append_conv (w : World) (g cap : Nat) (l r : List UInt8) (ad : Addr) (c : Nat) (h : CRow w g cap l) (hr : ∀ j u, (bytesV r)[j]? = some u → w.cell? (ad.add j) = some u) (hr0 : r ≠ []) (hbig : l.length + r.length ≤ 140737488355328) (B : Nat) (hB : B ≤ g) (ty : TypeId) :
    ∃ g' c' w', (Builtin.append_ #[57, 57] ty #[.slice (some ⟨g, 0, none⟩) l.length cap, .slice (some ad) r.length c]).run Tryd.prog w = .ok (.slice (some ⟨g', 0, none⟩) (l.length + r.length) c') w' ∧ BRow w' g' (l ++ r) ∧ Below B w w' ∧ B ≤ g' ∧ g' < w'.heap.size ∧ l.length + r.length ≤ c' ∧ c' ≤ maxLen := by
  obtain ⟨i0, hi0, hz0, hzs, hzb⟩ := info_parts info8
  obtain ⟨cur, fr, hg, hcs, hlc, hcm, htk, hfz⟩ := h
  have hgl := (Array.getElem?_eq_some_iff.1 hg).1
  have hrl : (bytesV r).length = r.length := bytesV_len r
  by_cases hroom : l.length + r.length ≤ cap
  · have hf := run_firstCells_some (P := Tryd.prog) w i0.size r.length ad r.length c (bytesV r) (by rw [hrl, hzs, Nat.mul_one]) hr
    have hst := run_storeCells_atG Tryd.prog g l.length 5 fr (bytesV r) 0 cur w hg hfz (by rw [hrl]; omega) (bytesV_one r)
    simp only [Nat.add_zero] at hst
    rw [hzs] at hf
    have hrun : (Builtin.append_ #[57, 57] ty #[.slice (some ⟨g, 0, none⟩) l.length cap, .slice (some ad) r.length c]).run Tryd.prog w = .ok (.slice (some ⟨g, 0, none⟩) (l.length + r.length) cap) (w.setRow g (cur.toList.take l.length ++ bytesV r ++ cur.toList.drop (l.length + (bytesV r).length)).toArray) := by
      simp [Builtin.append_, run_underlying Tryd.underlying57, sizeOf, typeInfo, hi0, hzs, Builtin.lenOf, hroom, hf, Addr.add_lit, hst]
    refine ⟨g, cap, _, hrun, ⟨_, fr, setRow_heap w g cur _ _ _ hg, ?_, ?_, ?_⟩, ⟨rfl, rfl, rfl, by simp, fun k hk => setRow_other w g k _ (by omega)⟩, hB, by simpa using hgl, hroom, hcm⟩
    · simp [bytesV_len]; omega
    · rw [htk, List.length_append, bytesV_app]
      exact List.take_left' (by rw [List.length_append, bytesV_len, bytesV_len])
    · right
      simp [bytesV_len]; omega
  · have holds : ∀ j u, (bytesV l)[j]? = some u → w.cell? ((⟨g, 0, none⟩ : Addr).add j) = some u := fun j u hj => by
      obtain ⟨hjl, rfl⟩ := bytesV_get hj
      rw [Addr.add_lit, Nat.zero_add, cell_of_row w g j cur _ fr hg]
      have : (cur.toList.take l.length)[j]? = (bytesV l)[j]? := by rw [htk]
      rw [List.getElem?_take, if_pos hjl, hj] at this
      simpa using this
    have hrn := run_append_grow (P := Tryd.prog) w 57 ty 5 i0 _ Tryd.underlying57 hi0 hz0 ⟨g, 0, none⟩ l.length cap (bytesV l) (by rw [bytesV_len, hzs, Nat.mul_one]) holds ad r.length c (bytesV r) (by rw [hrl, hzs, Nat.mul_one]) hr (by omega) (by omega) (growslice_fits (by omega) (by rw [hzb]; omega))
    have hge := grownCap_ge w (l.length + r.length) cap 5
    have hle := grownCap_le_maxLen w (l.length + r.length) cap 5 (by unfold maxLen; omega)
    refine ⟨w.heap.size, _, _, hrn, ⟨_, (0, 0), heap_alloc_new w.drew _, ?_, ?_, .inl rfl⟩, ((Below.refl B w).drew).alloc (by show B ≤ w.heap.size; omega) _, by omega, by show w.heap.size < _; simp, hge, hle⟩
    · simp [bytesV_len]
    · rw [List.length_append, bytesV_app, Array.toList_append, Array.toList_append, List.append_assoc, ← List.append_assoc]
      exact List.take_left' (by simp [bytesV_len])
theorem BRow.bytes {w : World} {g : Nat} {l : List UInt8} (h : BRow w g l) (m : Nat) : BytesAt w (some ⟨g, 0, none⟩) (l.take m) := fun _ => ⟨_, rfl, fun j u hj => by
  obtain ⟨hjl, rfl⟩ := bytesV_get hj
  rw [List.length_take] at hjl
  rw [Addr.add_lit, Nat.zero_add, h.cell (by omega)]
  unfold byV gat
  rw [List.getElem_take, List.getElem?_eq_getElem (by omega)]
  rfl⟩
/-- a slice of a row of bytes, read as a text -/
theorem BRow.front {w : World} {g cap : Nat} {l : List UInt8} (h : BRow w g l) (m : Nat) (hm : m ≤ l.length) : (convert 57 9 (.slice (some ⟨g, 0, none⟩) m cap)).run Tryd.prog w = .ok (.string (BA (l.take m))) w := by
  have e : (l.take m).length = m := by rw [List.length_take]; omega
  obtain ⟨cur, fr, h1, h2, h3, h4⟩ := h
  refine BRow.str (l := l.take m) ⟨cur, fr, h1, by omega, ?_, h4⟩ m e
  rw [e]
  have := congrArg (List.take m) h3
  rw [List.take_take, Nat.min_eq_left hm] at this
  rw [this]
  unfold bytesV
  rw [List.map_take]
/-- a row of bytes more behind one's own, and where it lies then -/
theorem append_rowB (w : World) (B : Nat) (v : Value) (l : List UInt8) (h : OwnB w B v l) (hB : B ≤ w.heap.size) (r : List UInt8) (c : Nat) (ad : Addr) (hr : ∀ j u, (bytesV r)[j]? = some u → w.cell? (ad.add j) = some u) (hbig : l.length + r.length ≤ 140737488355328) (ty : TypeId) :
    ∃ v' w', (Builtin.append_ #[57, 57] ty #[v, .slice (some ad) r.length c]).run Tryd.prog w = .ok v' w' ∧ OwnB w' B v' (l ++ r) ∧ w.grownBy w' v.ownBlock ∧ (v'.ownBlock = v.ownBlock ∨ v'.ownBlock = some w.heap.size) := by
  obtain ⟨i0, hi0, hz0, hzs, hzb⟩ := info_parts info8
  obtain ⟨v', w', r1, r2, r3, _, r5⟩ := run_append_own_at (P := Tryd.prog) (w := w) B 57 ty 5 i0 _ 1 1 Tryd.underlying57 hi0 hz0 hzs hzb rfl (by decide) v l.length (bytesV l) h ad r.length c (bytesV r) (by rw [bytesV_len, Nat.mul_one]) hr (bytesV_one r) (by unfold maxLen; omega) (by omega) hB
  refine ⟨v', w', r1, ?_, r3, r5⟩
  unfold OwnB
  rw [bytesV_app, List.length_append]
  exact r2
end Go.Proofs.YtdbfpmelhokeoaaDoor
