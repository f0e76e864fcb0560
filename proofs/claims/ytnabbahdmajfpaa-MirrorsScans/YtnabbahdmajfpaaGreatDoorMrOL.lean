/-
  (After rows: over the short list of laid variables.) A line that is handed in by value: what its memory says.
-/
import Derived.Test.YtnabbahdmajfpaaGreatDoorRwTw
import Derived.Test.YtnabbahdmajfpaaGreatDoorMrLaid
import Derived.Test.YtnabbahdmajfpaaGreatDoorBulk
import Derived.Lib.Join
import Derived.Deep.Strs
import Derived.Deep.Fields
namespace Go.Proofs.YtnabbahdmajfpaaGreatDoor
open Go.ChangeShapes Go.WideShapes Go.ChangeAt Go.RowKit Go.Deep
set_option linter.unusedVariables false

/-- the fields, with a semicolon and a blank between -/
def joinP (l : List (List UInt8)) : ByteArray := S (Lib.join l [59, 32])

theorem strs_at {w : World} {a : Addr} {Sx : Nat → ByteArray} {m : Nat} (h : ∀ i, i < m → w.cell? (a.add i) = some (.string (Sx i))) (hp : 0 < m) : ∃ b off, a = ⟨b, off, none⟩ ∧ ∀ i, i < m → w.cell? ⟨b, off + i, none⟩ = some (.string (Sx i)) := by
  obtain ⟨b, off, spot⟩ := a
  have hspot : spot = none := by simpa [Addr.add] using World.cell?_spot (h 0 hp)
  subst hspot
  exact ⟨b, off, rfl, fun j hj => by rw [← Go.WideShapes.add_plain]; exact h j hj⟩
theorem array5 {α : Type} {cs : Array α} (h : cs.size = 5) : ∃ c0 c1 c2 c3 c4, cs = #[c0, c1, c2, c3, c4] := by
  obtain ⟨l⟩ := cs
  match l, h with
  | [c0, c1, c2, c3, c4], _ => exact ⟨c0, c1, c2, c3, c4, rfl⟩
theorem list5 {α : Type} {cs : List α} (h : cs.length = 5) : ∃ c0 c1 c2 c3 c4, cs = [c0, c1, c2, c3, c4] := by
  match cs, h with
  | [c0, c1, c2, c3, c4], _ => exact ⟨c0, c1, c2, c3, c4, rfl⟩
theorem join_size : ∀ l : List (List UInt8), (Lib.join l [59, 32]).length ≤ (l.map List.length).sum + 2 * l.length
  | [] => by simp [Lib.join, List.intercalate]
  | [x] => by simp [Lib.join, List.intercalate]
  | x :: y :: r => by
    have h := join_size (y :: r)
    have e : Lib.join (x :: y :: r) [59, 32] = x ++ ([59, 32] ++ Lib.join (y :: r) [59, 32]) := by
      simp [Lib.join, List.intercalate, List.intersperse]
    rw [e]
    simp only [List.length_append, List.length_cons, List.length_nil, List.map_cons, List.sum_cons] at h ⊢
    omega
theorem join_mem : ∀ (l : List (List UInt8)) (x : List UInt8), x ∈ l → x.length ≤ (Lib.join l [59, 32]).length
  | [], x, h => by simp at h
  | [y], x, h => by
    simp at h
    subst h
    simp [Lib.join, List.intercalate]
  | y :: z :: r, x, h => by
    have e : Lib.join (y :: z :: r) [59, 32] = y ++ ([59, 32] ++ Lib.join (z :: r) [59, 32]) := by
      simp [Lib.join, List.intercalate, List.intersperse]
    rw [e]
    simp only [List.length_append, List.length_cons, List.length_nil]
    rcases List.mem_cons.1 h with rfl | h
    · omega
    · have := join_mem (z :: r) x h
      omega
theorem joinP_mem {l : List (List UInt8)} {x : List UInt8} (h : x ∈ l) : x.length ≤ (joinP l).size := by
  have e : (joinP l).size = (Lib.join l [59, 32]).length := S_size _
  rw [e]
  exact join_mem l x h
theorem bulk_strs {H : Type} (Sx : Nat → ByteArray) : ∀ l : List Nat, ((l.map fun i => (Sx i).data.toList).map List.length).sum + l.length ≤ Rows.uptoBulkAll (l.map fun i => (DataW.lit (H := H) (.string (Sx i).data.toList)))
  | [] => by simp [Rows.uptoBulkAll]
  | i :: l => by
    have := bulk_strs (H := H) Sx l
    simp only [List.map_cons, List.sum_cons, Rows.uptoBulkAll, Rows.uptoBulk, List.length_cons]
    omega

theorem cellsLine : Tryz.prog.cellsOf 25 = 5 := by kernel_rfl
theorem cellsStr : Tryz.prog.cellsOf 9 = 1 := by kernel_rfl

set_option maxRecDepth 100000 in
theorem open_line6 {H : Type} {enc : TypeId × Value → H} {W : World} {r : Reach} {b0 : Nat} {v : Value} {d : DataW H} {p : List MemPlace} (hv : Value.okWide Tryz.prog W r b0 25 v) (h : DataW.Trod enc Tryz.prog W 0 (fun _ => true) true 25 v d p) (hk : Rows.uptoBulk d ≤ 1048576) :
    ∃ (D : LineD) (a : Option Addr) (n c : Nat), v = lineV D (.slice a n c) ∧ D.fields.length = n ∧ n ≤ c ∧ c ≤ 1048576 ∧ TxP W a D.fields ∧ (joinP D.fields).size + D.name.length + D.note.length ≤ 4194304 := by
  obtain ⟨cs, rfl, hsz⟩ := okWide_struct Tryz.underlying25 hv
  obtain ⟨c0, c1, c2, c3, c4, rfl⟩ := array5 (hsz.trans cellsLine)
  obtain ⟨fuel, hf⟩ := h
  obtain ⟨xs, n, _, hx, hl, hlen, hfs⟩ := DataW.trod_struct Tryz.underlying25 hf
  obtain ⟨y0, y1, y2, y3, y4, rfl⟩ := list5 hlen
  have k0 : Tryz.prog.cellsOf 3 = 1 := by kernel_rfl
  have k1 : Tryz.prog.cellsOf 22 = 1 := by kernel_rfl
  have k3 : Tryz.prog.cellsOf 23 = 1 := by kernel_rfl
  have h0 : DataW.trod enc Tryz.prog W 0 (fun _ => true) true n 3 [c0] = some y0 := by simpa [k0, Value.cells] using hfs 0 _ rfl
  have h1 : DataW.trod enc Tryz.prog W 0 (fun _ => true) true n 22 [c1] = some y1 := by simpa [k1, Value.cells] using hfs 1 _ rfl
  have h2 : DataW.trod enc Tryz.prog W 0 (fun _ => true) true n 9 [c2] = some y2 := by simpa [cellsStr, Value.cells] using hfs 2 _ rfl
  have h3 : DataW.trod enc Tryz.prog W 0 (fun _ => true) true n 23 [c3] = some y3 := by simpa [k3, Value.cells] using hfs 3 _ rfl
  have h4 : DataW.trod enc Tryz.prog W 0 (fun _ => true) true n 9 [c4] = some y4 := by simpa [cellsStr, Value.cells] using hfs 4 _ rfl
  obtain ⟨no, e0, rfl, -⟩ := DataW.trod_int Tryz.underlying3 h0
  obtain ⟨kind, e1, rfl, -⟩ := DataW.trod_int Tryz.underlying22 h1
  obtain ⟨nm, e2, rfl, -⟩ := DataW.trod_string Tryz.underlying9 h2
  obtain ⟨nt, e4, rfl, -⟩ := DataW.trod_string Tryz.underlying9 h4
  simp only [List.cons.injEq, and_true] at e0 e1 e2 e4
  subst e0 e1 e2 e4
  have hd : d = _ := congrArg Prod.fst hx
  rw [hd] at hk
  simp only [List.map_cons, List.map_nil, Rows.uptoBulk, Rows.uptoBulkAll] at hk
  rcases open_strs Tryz.underlying23 Tryz.underlying9 cellsStr h3 with ⟨hc, hy⟩ | ⟨ad, len, cap, m, Sx, hc, _, hlc, hcm, hmm, hy, hcell⟩
  · simp only [List.cons.injEq, and_true] at hc
    subst hc
    refine ⟨⟨no, kind, L nm, [], L nt⟩, none, 0, 0, ?_, rfl, Nat.le_refl _, by omega, fun i x hx => by simp at hx, ?_⟩
    · simp only [lineV, S_L]
    · have e : (joinP []).size = 0 := rfl
      have e1 := L_len nm
      have e2 := L_len nt
      simp only [Array.length_toList] at hk
      have e3 : nm.data.size = nm.size := rfl
      have e4 : nt.data.size = nt.size := rfl
      show (joinP []).size + (L nm).length + (L nt).length ≤ _
      omega
  · simp only [List.cons.injEq, and_true] at hc
    subst hc
    have hmm' : m = cap := by simpa using hmm
    subst hmm'
    rw [hy] at hk
    simp only [Rows.uptoBulk] at hk
    have hb1 := bulk_strs (H := H) Sx (List.range len)
    have hb2 := bulk_length ((List.range (m - len)).map fun j => (DataW.lit (H := H) (.string (Sx (len + j)).data.toList)))
    simp only [List.length_map, List.length_range] at hb1 hb2
    have hjs := join_size ((List.range len).map fun i => (Sx i).data.toList)
    simp only [List.length_map, List.length_range] at hjs
    simp only [Array.length_toList] at hk
    have e3 : nm.data.size = nm.size := rfl
    have e4 : nt.data.size = nt.size := rfl
    have e1 := L_len nm
    have e2 := L_len nt
    refine ⟨⟨no, kind, L nm, (List.range len).map fun i => (Sx i).data.toList, L nt⟩, some ad, len, m, ?_, by simp, hlc, by omega, ?_, ?_⟩
    · simp only [lineV, S_L]
    · intro i x hx
      have hi : i < len := by have := (List.getElem?_eq_some_iff.1 hx).1; simpa using this
      obtain ⟨b, off, rfl, hcc⟩ := strs_at (m := m) (fun i hi => (hcell i hi).1) (by omega)
      have hxx : (Sx i).data.toList = x := by simpa [hi] using hx
      have hci := hcc i (by omega)
      refine ⟨b, off, rfl, ?_, by rw [hci, ← hxx]⟩
      refine Decidable.byContradiction fun hn => ?_
      have : W.heap[b]? = none := Array.getElem?_eq_none (by omega)
      simp [World.cell?, this] at hci
    · have e : (joinP ((List.range len).map fun i => (Sx i).data.toList)).size = (Lib.join ((List.range len).map fun i => (Sx i).data.toList) [59, 32]).length := S_size _
      show (joinP ((List.range len).map fun i => (Sx i).data.toList)).size + (L nm).length + (L nt).length ≤ _
      omega
end Go.Proofs.YtnabbahdmajfpaaGreatDoor
