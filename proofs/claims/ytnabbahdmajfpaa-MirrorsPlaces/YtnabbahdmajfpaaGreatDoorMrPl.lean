/-
  The law MirrorsPlaces, walked.
-/
import Derived.Test.YtnabbahdmajfpaaGreatDoorMrTw
namespace Go.Proofs.YtnabbahdmajfpaaGreatDoor
open Go.RowKit Go.PlainAid Go.Lib Go.PHexM Go.Shelf
set_option linter.unusedVariables false
set_option linter.unusedSimpArgs false

/-- runes in memory -/
def RunesAt (W : World) (g : Nat) (xs : List Nat) : Prop := ∀ (i : Nat) (x : Nat), xs[i]? = some x → W.cell? ⟨g, i, none⟩ = some (.int .i32 (x : Nat))
theorem RunesAt.below {W W' : World} {g : Nat} {xs : List Nat} (h : RunesAt W g xs) (hb : Below W.heap.size W W') : RunesAt W' g xs := fun i x hx => (hb.cell (World.block_lt_of_cell? _ _ (h i x hx))).trans (h i x hx)
/-- '[]rune(s)' in whatever world -/
theorem conv_runesM (s : ByteArray) (W : World) (hs : s.size ≤ 70368744177664) :
    ∃ cap W', (convert 9 66 (.string s)).run Tryz.prog W = .ok (.slice (some ⟨W.heap.size, 0, none⟩) ((chars s 0).map (·.2)).length cap) W' ∧
      RunesAt W' W.heap.size ((chars s 0).map (·.2)) ∧ Below W.heap.size W W' := by
  have hl := chars_length s 0
  have hconv := run_runes_of_string (P := Tryz.prog) W 9 66 21 s Tryz.underlying9 Tryz.underlying66 Tryz.underlying21 (by rw [runesFrom_vals]; simp [runeVals]; omega)
  rw [runesFrom_vals] at hconv
  have hrl := runeVals_len s
  simp only [List.size_toArray, hrl] at hconv
  refine ⟨_, _, by rw [List.length_map]; exact hconv, fun i x hx => ?_, by go_grown⟩
  rw [List.getElem?_map] at hx
  obtain ⟨p, hp, rfl⟩ := Option.map_eq_some_iff.1 hx
  have hi := (List.getElem?_eq_some_iff.1 hp).1
  have hv : (runeVals s)[i]? = some (.int .i32 (p.2 : Nat)) := by unfold runeVals; rw [List.getElem?_map, hp]; rfl
  have hh := heap_alloc_new W.drew (Obj.cells ((runeVals s).toArray ++ Array.replicate (grownCap W (chars s 0).length 0 21 - (chars s 0).length) (Value.int IntKind.i32 0)) 21)
  have hh' : (W.drew.alloc (Obj.cells ((runeVals s).toArray ++ Array.replicate (grownCap W (chars s 0).length 0 21 - (chars s 0).length) (Value.int IntKind.i32 0)) 21)).heap[W.heap.size]? = _ := hh
  simp only [World.cell?, hh']
  rw [Array.getElem?_append_left (by simp [hrl]; exact hi)]
  simpa using hv
theorem runeL_inv {l : List MirD} {xa xb : List Nat} {n i : Nat} (h : RuneL l (xa.drop i) (xb.drop i) n) (hi : i < xa.length) : ∃ x y, xa[i]? = some x ∧ xb[i]? = some y ∧
    ((x = y ∧ RuneL l (xa.drop (i + 1)) (xb.drop (i + 1)) n) ∨ (∃ z m, n = m + 1 ∧ ofM l x = some z ∧ y = fixN z ∧ RuneL l (xa.drop (i + 1)) (xb.drop (i + 1)) m)) := by
  have hl := runeL_len h
  simp only [List.length_drop] at hl
  have hib : i < xb.length := by omega
  rw [List.drop_eq_getElem_cons hi, List.drop_eq_getElem_cons hib] at h
  refine ⟨xa[i], xb[i], List.getElem?_eq_getElem hi, List.getElem?_eq_getElem hib, ?_⟩
  generalize xa[i] = x at *
  generalize xb[i] = y at *
  cases h with
  | stay _ _ _ _ h => exact .inl ⟨rfl, h⟩
  | turn _ z _ _ m ho h => exact .inr ⟨z, m, rfl, ho, rfl, h⟩
theorem fix_or (z : Int) : ((fixN z : Nat) : Int) = z ∨ fixN z = 65533 := by
  unfold fixN
  split
  · rename_i h
    left
    unfold scalarB at h
    simp only [Bool.and_eq_true, decide_eq_true_eq] at h
    omega
  · exact .inr rfl

set_option maxRecDepth 100000 in
set_option maxHeartbeats 2000000 in
theorem places_walk (l : List MirD) (a : Option Addr) (n c : Nat) (s : ByteArray) (w : World) (hg : errTypeAt w) (hn : l.length = n) (hnb : n ≤ 1048576) (hok : ∀ x ∈ l, MirOk x) (h : MrMem w a l) (hs : s.size ≤ 1048576) :
    Calls Tryz.prog 11 #[.slice a n c, .string s] w fun e w' => e = .returned (.bool true) ∧ Below w.heap.size w w' := by
  have HG := hide hg
  have hT := text9_any l a n c s w hn (by omega) hok h (by omega)
  have HO := hide (fun r wr hm => of9_any l a n c r wr hn (by omega) hm)
  have HM : Hid (∀ V, Below w.heap.size w V → MrMem V a l) := fun V hb => h.below hb
  have hrl := sim_runes (sim_whole l s)
  have hsz := (outR_size l s s.size 0 (by omega)).1
  obtain ⟨T, hTT⟩ : ∃ T, (outR l s 0).1 = T := ⟨_, rfl⟩
  obtain ⟨N, hNN⟩ : ∃ N, (outR l s 0).2 = N := ⟨_, rfl⟩
  rw [hTT, hNN] at hT hrl
  rw [hTT] at hsz
  have hNs : N ≤ s.size := by rw [← hNN]; have := (outR_size l s s.size 0 (by omega)).2; omega
  have hcl := chars_length s 0
  have hC1 := fun W => conv_runesM s W (by omega)
  have hC2 := fun W => conv_runesM T W (by omega)
  have hlen := runeL_len hrl
  have hA : ((chars s 0).map (·.2)).length ≤ s.size := by rw [List.length_map]; omega
  generalize (chars s 0).map (·.2) = xa at *
  generalize (chars T 0).map (·.2) = xb at *
  obtain ⟨m, hm⟩ : ∃ m, xa.length = m := ⟨_, rfl⟩
  rw [← hlen, hm] at hC2
  rw [hm] at hC1 hA
  have HT := hide hT
  have HRL := hide hrl
  have HL := hide hm
  have HC2 := hide hC2
  have HC1 := hide hC1
  clear hT hrl hTT hNN hlen hm hC1 hC2 hg hn hok h hsz hcl
  go_enter Tryz.func11, Tryz.ntmps11
  go_wp2_with fail
  refine (unhide HT).mono ?_
  rintro e w1 ⟨rfl, hb1⟩
  obtain ⟨ca, W2, hr1, hra, hb2⟩ := unhide HC1 w1
  obtain ⟨cb, W3, hr2, hrb, hb3⟩ := unhide HC2 W2
  have hra3 := hra.below hb3
  have hB3 : Below w.heap.size w W3 := hb1.trans ((hb2.trans (hb3.mono hb2.size)).mono hb1.size)
  have HRA := hide hra3
  have HRB := hide hrb
  have HB3 := hide hB3
  generalize w1.heap.size = ga at *
  generalize W2.heap.size = gb at *
  clear hra hra3 hrb hb1 hb2 hb3 HC1 HC2 HT hB3
  have hmm : ((m : Int) != (m : Int)) = false := by simp
  go_wp2
  clear hr1 hr2
  go_loopw [9, 10] (fun v9 v10 wr => ∃ i ch k : Nat, i ≤ m ∧ v10 = .int .i64 i ∧ v9 = .int .i64 ch ∧ ch + k ≤ N ∧ Hid (RuneL l (xa.drop i) (xb.drop i) k) ∧ Hid (Below W3.heap.size W3 wr)) (fun _ v10 _ => m - (RowKit.intOf v10).toNat)
  case atStart => exact ⟨0, 0, N, Nat.zero_le _, rfl, rfl, by omega, unhide HRL, Below.refl _ _⟩
  case round =>
    obtain ⟨i, ch, k, hi, rfl, rfl, hck, HR, HB⟩ := hrel
    have HBw : Hid (Below w.heap.size w wr) := (unhide HB3).trans ((unhide HB).mono (unhide HB3).size)
    by_cases hlt : i < m
    · obtain ⟨x, y, hx, hy, hor⟩ := runeL_inv (unhide HR) (by rw [unhide HL]; exact hlt)
      have cx := ((unhide HRA).below (unhide HB)) i x hx
      have cy := ((unhide HRB).below (unhide HB)) i y hy
      have hlt' : (i : Int) < (m : Int) := by omega
      have hq1 : IntKind.i64.wrap ((i : Int) + 1) = (i : Int) + 1 := by rw [IntKind.wrap_i64]; omega
      have hq2 : IntKind.i64.wrap ((ch : Int) + 1) = (ch : Int) + 1 := by rw [IntKind.wrap_i64]; omega
      by_cases hxy : x = y
      · subst hxy
        have HR2 : Hid (∃ k', k' ≤ k ∧ RuneL l (xa.drop (i + 1)) (xb.drop (i + 1)) k') := by
          rcases hor with ⟨_, h⟩ | ⟨z, q, rfl, _, _, h⟩
          · exact ⟨k, Nat.le_refl _, h⟩
          · exact ⟨q, Nat.le_succ _, h⟩
        have dxy : ((x : Int) == (x : Int)) = true := by simp
        clear hor hx hy HR
        go_wp2
        go_quiet (fail)
        go_wp2
        go_roundw
        case rel =>
          obtain ⟨k', hk', h'⟩ := unhide HR2
          exact ⟨i + 1, ch, k', by omega, by go_num, rfl, by omega, h', below_drewN (unhide HB) _⟩
        case measure => simp [RowKit.intOf]; omega
      · obtain ⟨z, q, rfl, hoz, hyz, hRq⟩ : ∃ z q, k = q + 1 ∧ ofM l x = some z ∧ y = fixN z ∧ RuneL l (xa.drop (i + 1)) (xb.drop (i + 1)) q := by
          rcases hor with ⟨e, _⟩ | h
          · exact absurd e hxy
          · exact h
        have HRQ := hide hRq
        have dxy : ((x : Int) == (y : Int)) = false := by simpa using fun e => hxy (by omega)
        have hcond : ((z : Int) != (y : Int)) = false ∨ ((y : Int) != 65533) = false := by
          rcases fix_or z with h | h
          · left; rw [hyz, h]; simp
          · right; rw [hyz, h]; simp
        have hO := fun V hb => unhide HO (x : Nat) V (unhide HM V hb)
        rw [hoz] at hO
        simp only [Option.getD_some, Option.isSome_some] at hO
        have HOX := hide hO
        clear hor hx hy HR hO hoz hyz hxy hRq
        go_wp2
        go_quiet (fail)
        generalize hWD : wr.drewN _ = WD
        have hBD : Below wr.heap.size wr WD := by rw [← hWD]; exact below_drewN (Below.refl _ _) _
        have cx' := (hBD.cell (World.block_lt_of_cell? _ _ cx)).trans cx
        have hBDw := (unhide HBw).trans (hBD.mono (unhide HBw).size)
        have HBD3 := hide ((unhide HB).trans (hBD.mono (unhide HB).size))
        have HCY : Hid (∀ V, Below WD.heap.size WD V → V.cell? ⟨gb, i, none⟩ = some (.int .i32 (y : Nat)) ∧ Below W3.heap.size W3 V) := fun V hb => by
          have c1 := (hBD.cell (World.block_lt_of_cell? _ _ cy)).trans cy
          exact ⟨(hb.cell (World.block_lt_of_cell? _ _ c1)).trans c1, (unhide HBD3).trans (hb.mono (unhide HBD3).size)⟩
        clear hWD hBD cx cy
        go_wp2_with fail
        refine (unhide HOX _ hBDw).mono ?_
        rintro e w5 ⟨rfl, hb5⟩
        obtain ⟨cy5, hB5⟩ := unhide HCY _ hb5
        have HB5 := hide hB5
        clear hB5 hb5 hBDw
        cases hd : ((z : Int) != (y : Int)) with
        | false =>
          clear hcond
          go_wp2
          go_roundw
          case rel => exact ⟨i + 1, ch + 1, q, by omega, by go_num, by go_num, by omega, unhide HRQ, unhide HB5⟩
          case measure => simp [RowKit.intOf]; omega
        | true =>
          have hc2 : ((y : Int) != 65533) = false := by
            rcases hcond with h | h
            · rw [hd] at h; cases h
            · exact h
          clear hcond
          go_wp2
          go_roundw
          case rel => exact ⟨i + 1, ch + 1, q, by omega, by go_num, by go_num, by omega, unhide HRQ, unhide HB5⟩
          case measure => simp [RowKit.intOf]; omega
    · obtain rfl : i = m := by omega
      have hle : (ch : Int) ≤ (N : Int) := by omega
      have HAW := hide (awake9_any wr (err_below (unhide HG) (unhide HBw)))
      go_wp2_with fail
      refine (unhide HAW).mono ?_
      rintro e w5 ⟨rfl, hb5⟩
      go_wp2
      go_ret
      exact ⟨rfl, (unhide HBw).trans (hb5.mono (unhide HBw).size)⟩
end Go.Proofs.YtnabbahdmajfpaaGreatDoor
