/-
  Lists of runes that came in, their copies, and the conversions of lists and texts, in whatever world.
-/
import Derived.Test.YtkckkchnmgidgaaLives
import Derived.OpenShut
namespace Go.Proofs.Ytkckkchnmgidgaa
open Go.RowKit Go.PlainAid Go.Lib

/-- a list of 32-bit integers that came in: nil, or a row of 'cap' cells of which the first 'len' are its elements -/
def IsRow (w : World) (a : Option Addr) (len cap : Nat) (zs : List Int) : Prop :=
  (a = none ∧ len = 0 ∧ cap = 0 ∧ zs = []) ∨
  ∃ x, a = some x ∧ len ≤ cap ∧ cap ≤ maxLen ∧ zs.length = cap ∧ (∀ i, i < zs.length → w.cell? (x.add i) = some (.int .i32 (zs.getD i 0)))

/-- '[]rune(s)' in whatever world -/
theorem conv_runes (s : ByteArray) (W : World) (hs : s.size ≤ 70368744177664) :
    ∃ cap W', (convert 9 26 (.string s)).run Try.prog W = .ok (.slice (some ⟨W.heap.size, 0, none⟩) (chars s 0).length cap) W' ∧
      W'.ownsRow 0 21 1 (.slice (some ⟨W.heap.size, 0, none⟩) (chars s 0).length cap) (chars s 0).length (runeVals s) ∧ Below W.heap.size W W' := by
  have hl := chars_length s 0
  have hconv := run_runes_of_string (P := Try.prog) W 9 26 21 s Try.underlying9 Try.underlying26 Try.underlying21 (by rw [runesFrom_vals]; simp [runeVals]; omega)
  rw [runesFrom_vals] at hconv
  have hrl := runeVals_len s
  simp only [List.size_toArray, hrl] at hconv
  refine ⟨_, _, hconv, ⟨by rw [hrl]; omega, .inr ⟨W.heap.size, _, _, rfl, Nat.zero_le _, heap_alloc_new W.drew _, grownCap_ge _ _ _ _, grownCap_le_maxLen _ _ _ _ (by unfold maxLen; omega), ?_, ?_⟩⟩, by go_grown⟩
  · have := grownCap_ge W (chars s 0).length 0 21
    simp [hrl]; omega
  · simp [← hrl]

theorem infoRune : (Try.prog.info? 21).map (fun i => (i.zero, i.size, i.bytes)) = some (some (.int .i32 0), 1, 4) := by kernel_rfl
theorem conv_own {W : World} {base : Nat} {v : Value} {n : Nat} {zs : List Int} (h : W.ownsRow base 21 1 v n (zs.map (Value.int .i32))) : (convert 26 9 v).run Try.prog W = .ok (.string (runesBytes zs)) W := by
  have hn : zs.length = n := by have := h.1; simpa using this
  rcases h.2 with ⟨rfl, h0⟩ | ⟨g, cap, cur, rfl, _⟩
  · have hz : zs = [] := List.eq_nil_of_length_eq_zero (by omega)
    subst hz
    rw [run_convert_runes_string (P := Try.prog) W 26 9 21 none 0 0 Try.underlying26 Try.underlying21 Try.underlying9]
    simp [Conv.runesToString, Sem.run_pure, runesBytes]
  · rw [run_convert_runes (P := Try.prog) W 26 9 21 ⟨g, 0, none⟩ n cap zs (by omega) Try.underlying26 Try.underlying21 Try.underlying9 (fun j hj => h.cells rfl j _ (by simp [List.getElem?_eq_getElem hj]))]
    rw [List.take_of_length_le (by omega)]
/-- the elements of a list that came in, in a later world -/
theorem news_at {w W : World} {x : Addr} {len cap : Nat} {zs : List Int} (hb : Below w.heap.size w W) (hl : len ≤ cap) (hz : zs.length = cap) (hc : ∀ i, i < zs.length → w.cell? (x.add i) = some (.int .i32 (zs.getD i 0))) :
    ((zs.take len).map (Value.int .i32)).length = len * 1 ∧ (∀ j u, ((zs.take len).map (Value.int .i32))[j]? = some u → W.cell? (x.add j) = some u) ∧ (∀ u ∈ (zs.take len).map (Value.int .i32), u.oneCell' = true) := by
  refine ⟨by simp; omega, ?_, ?_⟩
  · intro j u hu
    rw [List.getElem?_map, List.getElem?_take] at hu
    split at hu
    · rename_i hj
      have hjz : j < zs.length := by omega
      rw [List.getElem?_eq_getElem hjz] at hu
      have hcj := hc j hjz
      have he : zs.getD j 0 = zs[j] := by simp [List.getD, List.getElem?_eq_getElem hjz]
      rw [he] at hcj
      have hu' : u = .int .i32 zs[j] := by simpa using hu.symm
      rw [hu', ← hcj]
      exact hb.cell (p := x.add j) (World.block_lt_of_cell? w _ hcj)
    · simp at hu
  · intro u hu
    obtain ⟨z, _, rfl⟩ := List.mem_map.1 hu
    rfl

theorem IsRow.below {w W : World} {a : Option Addr} {len cap : Nat} {zs : List Int} (h : IsRow w a len cap zs) (hb : Below w.heap.size w W) : IsRow W a len cap zs := by
  rcases h with h | ⟨x, h1, h2, h3, h4, h5⟩
  · exact .inl h
  · refine .inr ⟨x, h1, h2, h3, h4, fun i hi => ?_⟩
    rw [← h5 i hi]
    exact hb.cell (p := x.add i) (World.block_lt_of_cell? w _ (h5 i hi))
/-- an element of a list that came in -/
theorem IsRow.at {w : World} {a : Option Addr} {len cap : Nat} {zs : List Int} (h : IsRow w a len cap zs) {k : Nat} (hk : k < len) :
    ∃ b off, a = some ⟨b, off, none⟩ ∧ w.cell? ⟨b, off + k, none⟩ = some (.int .i32 (zs.getD k 0)) := by
  rcases h with ⟨_, h, _⟩ | ⟨x, h1, h2, h3, h4, h5⟩
  · omega
  · obtain ⟨b, off, rfl, hc⟩ := ints_at h5 (by omega)
    exact ⟨b, off, h1, hc k (by omega)⟩

/-- a list of runes in memory, whatever its spare room -/
def Reads (w : World) (a : Option Addr) (zs : List Int) : Prop := ∀ k, k < zs.length → ∃ b off, a = some ⟨b, off, none⟩ ∧ w.cell? ⟨b, off + k, none⟩ = some (.int .i32 (zs.getD k 0))
theorem IsRow.reads {w : World} {a : Option Addr} {len cap : Nat} {zs : List Int} (h : IsRow w a len cap zs) : Reads w a (zs.take len) ∧ (zs.take len).length = len := by
  have hl : len ≤ zs.length := by rcases h with ⟨_, h, _⟩ | ⟨_, _, h2, _, h4, _⟩ <;> omega
  refine ⟨fun k hk => ?_, by rw [List.length_take]; omega⟩
  have hk' : k < len := by rw [List.length_take] at hk; omega
  obtain ⟨b, off, h1, h2⟩ := h.at hk'
  refine ⟨b, off, h1, h2.trans ?_⟩
  simp [List.getD, hk']
theorem reads_own {w : World} {base : Nat} {a : Option Addr} {n c : Nat} {zs : List Int} (h : w.ownsRow base 21 1 (.slice a n c) n (zs.map (Value.int .i32))) : Reads w a zs := by
  intro k hk
  have hn : zs.length = n := by have := h.1; simpa using this
  rcases h.2 with ⟨_, h0⟩ | ⟨g, cap, cur, hv, _, hg, _⟩
  · omega
  · obtain ⟨rfl, rfl⟩ : a = some ⟨g, 0, none⟩ ∧ c = cap := by simpa using hv
    refine ⟨g, 0, rfl, ?_⟩
    rw [Nat.zero_add, h.cellAt k (by omega)]
    simp [List.getD, List.getElem?_eq_getElem hk]
theorem Reads.below {w W : World} {a : Option Addr} {zs : List Int} (h : Reads w a zs) (hb : Below w.heap.size w W) : Reads W a zs := by
  intro k hk
  obtain ⟨b, off, h1, h2⟩ := h k hk
  exact ⟨b, off, h1, (hb.cell (p := ⟨b, off + k, none⟩) (World.block_lt_of_cell? w _ h2)).trans h2⟩
theorem Reads.front {w : World} {a : Option Addr} {zs ys : List Int} (h : Reads w a (zs ++ ys)) : Reads w a zs := by
  intro k hk
  obtain ⟨b, off, h1, h2⟩ := h k (by rw [List.length_append]; omega)
  refine ⟨b, off, h1, h2.trans ?_⟩
  simp [List.getD, List.getElem?_append, hk]
end Go.Proofs.Ytkckkchnmgidgaa
