/-
  UtfGo: All tells what Go's own range over a string tells, Runes and Encode are Go's own conversions: for every text and every list of runes that hold together at most 1048576 values and letters.
-/
import Derived.Test.YtgffibonikcecaaLives
import Derived.Test.YtgffibonikcecaaGather
import Derived.Deep.QuietTactic
import Derived.BigQuiet
import Derived.Deep.RegionWith
namespace Go.Proofs.Ytgffibonikcecaa.utfGo
open Go.RowKit Go.PlainAid Go.Lib
attribute [local go_sem] World.iter

/-- a list of 32-bit integers that came in: nil, or a row of 'cap' cells of which the first 'len' are its elements -/
def IsRow (w : World) (a : Option Addr) (len cap : Nat) (zs : List Int) : Prop :=
  (a = none ∧ len = 0 ∧ cap = 0 ∧ zs = []) ∨
  ∃ x, a = some x ∧ len ≤ cap ∧ cap ≤ maxLen ∧ zs.length = cap ∧ (∀ i, i < zs.length → w.cell? (x.add i) = some (.int .i32 (zs.getD i 0)))

theorem pairCells_length (s : ByteArray) (l : List Nat) : (pairCells s l).length = l.length * 2 := by
  induction l with
  | nil => rfl
  | cons x l ih => simp only [pairCells, List.flatMap_cons, List.length_append, List.length_cons, List.length_nil] at ih ⊢; omega
theorem pairCells_at (s : ByteArray) : ∀ (l : List Nat) (i : Nat) (h : i < l.length), (pairCells s l)[i * 2]? = some (.int .i64 (l[i] : Nat)) ∧ (pairCells s l)[i * 2 + 1]? = some (.int .i32 ((Utf8.decode s l[i]).1 : Nat)) := by
  intro l
  induction l with
  | nil => intro i h; simp at h
  | cons x l ih =>
    intro i h
    cases i with
    | zero => exact ⟨rfl, rfl⟩
    | succ i =>
      have := ih i (by simpa using h)
      have e1 : (i + 1) * 2 = i * 2 + 1 + 1 := by omega
      rw [e1]
      exact this

/-- the pair of the character x that stands behind pre, in memory -/
theorem told_at {w1 : World} {base : Nat} {s : ByteArray} {a : Option Addr} {n c : Nat} {l pre rest : List Nat} {x : Nat} (h : w1.ownsRow base 29 2 (.slice a n c) n (pairCells s l)) (hl : l = pre ++ x :: rest) :
    ∃ g, a = some ⟨g, 0, none⟩ ∧ g < w1.heap.size ∧ w1.cell? ⟨g, pre.length * 2, none⟩ = some (.int .i64 (x : Nat)) ∧ w1.cell? ⟨g, pre.length * 2 + 1, none⟩ = some (.int .i32 ((Utf8.decode s x).1 : Nat)) := by
  have hn : l.length = n := by have := h.1; rw [pairCells_length] at this; omega
  have hlt : pre.length < l.length := by rw [hl]; simp
  have hx : l[pre.length] = x := by subst hl; simp
  have hp := pairCells_at s l pre.length hlt
  rw [hx] at hp
  rcases h.2 with ⟨_, h0⟩ | ⟨g, cap, cur, hv, _, hg, _⟩
  · omega
  · obtain ⟨rfl, rfl⟩ : a = some ⟨g, 0, none⟩ ∧ c = cap := by simpa using hv
    exact ⟨g, rfl, (Array.getElem?_eq_some_iff.1 hg).1, (h.cellAt _ (by omega)).trans hp.1, (h.cellAt _ (by omega)).trans hp.2⟩

/-- '[]rune(s)' in whatever world -/
theorem conv_runes (s : ByteArray) (W : World) (hs : s.size ≤ 70368744177664) :
    ∃ cap W', (convert 9 38 (.string s)).run Try.prog W = .ok (.slice (some ⟨W.heap.size, 0, none⟩) (chars s 0).length cap) W' ∧
      W'.ownsRow 0 21 1 (.slice (some ⟨W.heap.size, 0, none⟩) (chars s 0).length cap) (chars s 0).length (runeVals s) ∧ Below W.heap.size W W' := by
  have hl := chars_length s 0
  have hconv := run_runes_of_string (P := Try.prog) W 9 38 21 s Try.underlying9 Try.underlying38 Try.underlying21 (by rw [runesFrom_vals]; simp [runeVals]; omega)
  rw [runesFrom_vals] at hconv
  have hrl := runeVals_len s
  simp only [List.size_toArray, hrl] at hconv
  refine ⟨_, _, hconv, ⟨by rw [hrl]; omega, .inr ⟨W.heap.size, _, _, rfl, Nat.zero_le _, heap_alloc_new W.drew _, grownCap_ge _ _ _ _, grownCap_le_maxLen _ _ _ _ (by unfold maxLen; omega), ?_, ?_⟩⟩, by go_grown⟩
  · have := grownCap_ge W (chars s 0).length 0 21
    simp [hrl]; omega
  · simp [← hrl]

theorem infoRune : (Try.prog.info? 21).map (fun i => (i.zero, i.size, i.bytes)) = some (some (.int .i32 0), 1, 4) := by kernel_rfl
theorem conv_own {W : World} {base : Nat} {v : Value} {n : Nat} {zs : List Int} (h : W.ownsRow base 21 1 v n (zs.map (Value.int .i32))) : (convert 38 9 v).run Try.prog W = .ok (.string (runesBytes zs)) W := by
  have hn : zs.length = n := by have := h.1; simpa using this
  rcases h.2 with ⟨rfl, h0⟩ | ⟨g, cap, cur, rfl, _⟩
  · have hz : zs = [] := List.eq_nil_of_length_eq_zero (by omega)
    subst hz
    rw [run_convert_runes_string (P := Try.prog) W 38 9 21 none 0 0 Try.underlying38 Try.underlying21 Try.underlying9]
    simp [Conv.runesToString, Sem.run_pure, runesBytes]
  · rw [run_convert_runes (P := Try.prog) W 38 9 21 ⟨g, 0, none⟩ n cap zs (by omega) Try.underlying38 Try.underlying21 Try.underlying9 (fun j hj => h.cells rfl j _ (by simp [List.getElem?_eq_getElem hj]))]
    rw [List.take_of_length_le (by omega)]
theorem encode_own {W : World} {base : Nat} {v : Value} {n : Nat} {zs : List Int} (h : W.ownsRow base 21 1 v n (zs.map (Value.int .i32))) :
    Calls Try.prog 29 #[v] W fun e w' => e = .returned (.string (runesBytes zs)) ∧ w' = W := by
  have hconv := conv_own h
  have hv : ∃ a n' c, v = .slice a n' c := by
    rcases h.2 with ⟨rfl, _⟩ | ⟨g, cap, cur, rfl, _⟩
    · exact ⟨_, _, _, rfl⟩
    · exact ⟨_, _, _, rfl⟩
  obtain ⟨a, n', c, rfl⟩ := hv
  clear h
  go_enter Try.func29, Try.ntmps29
  go_wp2
  go_ret
  exact ⟨rfl, rfl⟩

/-- the elements of a list that came in, in a later world -/
theorem news_at {w W : World} {x : Addr} {len cap : Nat} {zs : List Int} (hb : Below w.heap.size w W) (hl : len ≤ cap) (hz : zs.length = cap) (hc : ∀ i, i < zs.length → w.cell? (x.add i) = some (.int .i32 (zs.getD i 0))) :
    ((zs.take len).map (Value.int .i32)).length = len * 1 ∧ (∀ j u, ((zs.take len).map (Value.int .i32))[j]? = some u → W.cell? (x.add j) = some u) ∧ (∀ u ∈ (zs.take len).map (Value.int .i32), u.oneCell' = true) := by
  refine ⟨by simp; omega, ?_, ?_⟩
  · intro j u hu
    rw [List.getElem?_map, List.getElem?_take] at hu
    split at hu
    · rename_i hj
      have hjz : j < zs.length := by omega
      rw [List.getElem?_eq_getElem hjz] at hu
      have hcj := hc j hjz
      have he : zs.getD j 0 = zs[j] := by simp [List.getD, List.getElem?_eq_getElem hjz]
      rw [he] at hcj
      have hu' : u = .int .i32 zs[j] := by simpa using hu.symm
      rw [hu', ← hcj]
      exact hb.cell (p := x.add j) (World.block_lt_of_cell? w _ hcj)
    · simp at hu
  · intro u hu
    obtain ⟨z, _, rfl⟩ := List.mem_map.1 hu
    rfl

set_option maxRecDepth 100000 in
set_option maxHeartbeats 2000000 in
theorem walk (s : ByteArray) (a1 : Option Addr) (len cap : Nat) (zs : List Int) (w : World) (hs : s.size ≤ 1048576) (hrow : IsRow w a1 len cap zs) (hcap : cap ≤ 1048576) :
    Calls Try.prog 8 #[.string s, .slice a1 len cap] w fun e w' => e = .returned (.bool true) ∧ Below w.heap.size w w' := by
  have HROW := hide hrow
  clear hrow
  go_enter Try.func8, Try.ntmps8
  go_wp2_with fail
  refine (gather_on s (-1) _ (by omega) (by omega)).mono ?_
  rintro e w1 ⟨v, rfl, htold, hb1⟩
  have hpl := places_length s
  have hcl := chars_length s 0
  have hfw : fewOf (-1) (places s) = places s := by unfold fewOf; rw [if_pos (by omega)]
  rw [hfw] at htold
  clear hfw
  obtain ⟨a, c, rfl⟩ : ∃ a c, v = .slice a (places s).length c := by
    rcases htold.2 with ⟨rfl, h⟩ | ⟨g, cap, cur, rfl, _⟩
    · exact ⟨_, _, by rw [h]⟩
    · exact ⟨_, _, rfl⟩
  have hPn : (places s).length ≤ 1048576 := by omega
  rw [← hpl] at hcl
  have HPL := hide hpl
  have HT := hide htold
  clear hpl htold
  generalize hL : (places s).length = L at *
  have HL := hide hL
  clear hL
  go_wp2
  go_loopw [5] (fun v5 wr => ∃ (pos : Nat) (pre : List Nat), Hid (pre ++ (chars s pos).map (·.1) = places s) ∧ v5 = .int .i64 pre.length ∧ wr = w1.iter s pos) (fun _ wr => s.size - wr.iterPos w1.heap.size)
  case atStart => exact ⟨0, [], rfl, rfl, rfl⟩
  case round =>
    obtain ⟨pos, pre, HP, rfl, rfl⟩ := hrel
    by_cases hlt : pos < s.size
    · have hnx := fun ty => run_next_any (P := Try.prog) w1 s pos ty hlt
      simp only [World.iter] at hnx
      have hb := dec_bounds s pos hlt
      have HP2 : Hid (pre ++ [pos] ++ (chars s (pos + (Utf8.decode s pos).2)).map (·.1) = places s) := by
        show _ = _
        rw [← HP.out, chars_step s pos hlt]; simp
      have hpn : pre.length < L := by
        have := congrArg List.length HP2.out
        rw [HL.out] at this; simp at this; omega
      obtain ⟨g, rfl, hgl, c0, c1⟩ := told_at (unhide HT) (pre := pre) (x := pos) (rest := (chars s (pos + (Utf8.decode s pos).2)).map (·.1)) (by rw [← HP2.out]; simp)
      have hdc : decide ((L : Int) ≤ (pre.length : Int)) = false := by simp; omega
      go_wp2
      go_roundw
      case rel => exact ⟨_, pre ++ [pos], HP2, by simp, rfl⟩
      case measure =>
        have e1 := World.iterPos_iter w1 s (pos + (Utf8.decode s pos).2)
        have e2 := World.iterPos_iter w1 s pos
        simp only [World.iter] at e1
        rw [e1, e2]; omega
    · have hnx := fun ty => run_next_end (P := Try.prog) w1 s pos ty hlt
      simp only [World.iter] at hnx
      have hpe : pre.length = L := by
        have := congrArg List.length HP.out
        rw [chars_end s pos hlt, HL.out] at this; simpa using this
      have hcn : (chars s 0).length = L := (unhide HPL).symm
      obtain ⟨cap1, W2, hconv, hown1, hb2⟩ := conv_runes s (w1.alloc (.stringIter s pos)) (by omega)
      rw [hcn] at hconv hown1
      have hz2 := hb2.size
      simp only [World.size_alloc] at hconv hown1 hz2
      have HCN := hide hcn
      have HO1 := hide hown1
      clear hcn hown1
      rw [hpe]
      clear hpe HP
      go_wp2_with fail
      refine (runes_any s _ (by omega)).mono ?_
      rintro e W3 ⟨cap2, rfl, hown2, hb3⟩
      rw [unhide HCN]
      rw [unhide HCN] at hown2
      have hr1 := row_below (unhide HO1) hb3
      have hr2 := own_zero hown2
      have HB : Hid (Below w.heap.size w W3) := by
        have h1 : Below w1.heap.size w1 W2 := below_after _ hb2 rfl
        exact (hb1.trans (h1.mono hb1.size)).trans (hb3.mono (Nat.le_trans hb1.size h1.size))
      have hcells : ∀ k, k < L → ∃ r : Int, W3.cell? ⟨w1.heap.size + 1, k, none⟩ = some (.int .i32 r) ∧ W3.cell? ⟨W2.heap.size, k, none⟩ = some (.int .i32 r) := by
        intro k hk
        have e1 := hr1.cellAt k (by omega)
        have e2 := hr2.cellAt k (by omega)
        have hk' : k < (chars s 0).length := by rw [unhide HCN]; exact hk
        have e3 : (runeVals s)[k]? = some (.int .i32 (((chars s 0)[k]'hk').2 : Nat)) := by
          simp [runeVals, List.getElem?_eq_getElem hk']
        rw [e3] at e1 e2
        exact ⟨_, e1, e2⟩
      have HC := hide hcells
      have HW3 : Hid (W2.heap.size < W3.heap.size) := (hown2.lt W2.heap.size rfl).2
      clear hcells hr1 hr2 hown2 HO1 HT hb3 hb2 hconv hnx
      go_wp2
      go_loopw [11] (fun v11 wr => ∃ k m : Nat, k ≤ L ∧ v11 = .int .i64 k ∧ wr = W3.drewN m) (fun v11 _ => L - (intOf v11).toNat)
      case atStart => exact ⟨0, 0, Nat.zero_le _, rfl, rfl⟩
      case round =>
        obtain ⟨k, m, hk, rfl, rfl⟩ := hrel
        by_cases hkl : k < L
        · obtain ⟨r, q1, q2⟩ := unhide HC k hkl
          go_wp2
          go_quiet (fail)
          go_wp2
          go_roundw
          case rel => exact ⟨k + 1, _, by omega, by simp, rfl⟩
          case measure => simp [intOf]; omega
        · obtain ⟨i0, hi, hz0, hz1, hz2⟩ := info_parts infoRune
          clear HC
          generalize hW4 : W3.drewN m = W4
          have hB4 : Below w.heap.size w W4 := by rw [← hW4]; exact below_drewN (unhide HB) m
          clear hW4 HB HW3
          rcases unhide HROW with ⟨rfl, rfl, rfl, rfl⟩ | ⟨x, rfl, hlc, hcm, hzl, hcell⟩
          · have hX : (W4.drew).ownsRow w.heap.size 21 1 (.slice none 0 0) 0 (([] : List Int).map (Value.int .i32)) := World.ownsRow_nil _ _ _ _
            have hcv := conv_own hX
            have HX := hide hX
            clear hX
            go_wp2
            go_region_with (first
              | (go_at_call 29; refine (encode_own (unhide HX)).mono ?_; rintro e w' ⟨rfl, rfl⟩)
              | (go_at_call 19; refine (lives_any _).mono ?_; rintro e w' ⟨rfl, hb⟩))
            all_goals
              go_wp2
              go_ret
              exact ⟨rfl, hB4.drew.trans (hb.mono hB4.size)⟩
          · obtain ⟨n1, n2, n3⟩ := news_at hB4 hlc hzl hcell
            have N1 := hide n1
            have N2 := hide n2
            have N3 := hide n3
            clear n1 n2 n3 hcell
            go_wp2_with (at_builtin; refine wpList_append_own W4 rfl _ _ 38 rfl w.heap.size 21 i0 (.int .i32 0) 1 4 Try.underlying38 hi hz0 hz1 hz2 rfl (by decide) (.slice none 0 0) 0 [] rfl (World.ownsRow_nil _ _ _ _) x len cap ((zs.take len).map (Value.int .i32)) rfl (unhide N1) (unhide N2) (unhide N3) (by unfold maxLen; omega) (by omega) hB4.size ?_; intro v' W5 hown' hgrow _)
            have hX : (W5.drew).ownsRow w.heap.size 21 1 v' len ((zs.take len).map (Value.int .i32)) := by
              have := hown'; rw [Nat.zero_add, List.nil_append] at this; exact this
            have hB5 : Below w.heap.size w W5 := hB4.grown hgrow hB4.size (fun k e => by simp [Value.ownBlock] at e)
            have hcv := conv_own hX
            have HX := hide hX
            clear hX hown' hgrow
            go_region_with (first
              | (go_at_call 29; refine (encode_own (unhide HX)).mono ?_; rintro e w' ⟨rfl, rfl⟩)
              | (go_at_call 19; refine (lives_any _).mono ?_; rintro e w' ⟨rfl, hb⟩))
            all_goals
              go_wp2
              go_ret
              exact ⟨rfl, hB5.drew.trans (hb.mono hB5.size)⟩

end Go.Proofs.Ytgffibonikcecaa.utfGo
