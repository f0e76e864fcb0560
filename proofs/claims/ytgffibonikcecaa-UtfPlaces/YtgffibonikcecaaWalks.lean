/-
  Walk of the places of a text: the iterator that tells the characters from one on, by their places among the characters.
-/
import Derived.Test.YtgffibonikcecaaPlace2
import Derived.Test.YtgffibonikcecaaSpots
import Derived.RegionTactic
namespace Go.Proofs.Ytgffibonikcecaa
open Go.RowKit Go.PlainAid Go.Lib
set_option linter.unusedVariables false

abbrev Ch (s : ByteArray) : Type := { k : Nat // k < (chars s 0).length }
abbrev walkVals (s : ByteArray) (x : Ch s) : Array Value := #[.int .i64 (x.1 : Nat), .int .i32 ((Utf8.decode s (startN s x.1)).1 : Nat)]

set_option maxRecDepth 100000 in
set_option maxHeartbeats 2000000 in
theorem walk1_in (s : ByteArray) (hs : s.size ≤ 4398046511104) (p : Value) (n l Bp Ba : Nat) (hn : 1 ≤ n) (a : Int) (ha : a ≤ 9223372036854775807) (J Jx : List (Ch s) → World → Prop)
    (hY : ∀ pre x W, J pre W → pre.length < s.size → YieldAt Fence.wide (n - 1) Try.prog l (walkVals s x) W fun e W' =>
      (e = .returned (.bool true) ∧ J (pre ++ [x]) W' ∧ KeepsWalks W W') ∨ (e = .returned (.bool false) ∧ Jx (pre ++ [x]) W'))
    (W : World) (hJ : AbidesFrom W.heap.size J) (hBp : Boxed W Bp 64 p) (hBa : Boxed W Ba 3 (.int .i64 a)) (hP : IsPlaces W p s) (h0 : J [] W) :
    CallsIn Fence.wide n Try.prog 63 #[.func (.yield l) #[] #[], .pointer (some ⟨Ba, 0, none⟩), .pointer (some ⟨Bp, 0, none⟩)] W fun e W' => (∃ v, e = .returned v) ∧
      ((∃ xs : List (Ch s), xs.map (·.1) = List.range' a.toNat ((chars s 0).length - a.toNat) ∧ J xs W') ∨ (∃ pre : List (Ch s), pre.map (·.1) <+: List.range' a.toNat ((chars s 0).length - a.toNat) ∧ Jx pre W')) := by
  refine callsIn_of_wp Try.func63 rfl trivial ?_ rfl
  simp only [Try.ntmps63, List.size_toArray, List.length_cons, List.length_nil, Nat.reduceAdd, Nat.reduceSub, Array.replicate_succ, Array.replicate_zero, List.push_toArray, List.append_toArray, List.nil_append, List.cons_append]
  have hF : ∀ f, Fence.wide.fn f := fun _ => trivial
  have c0 := hBp.cell
  have c1 := hBa.cell
  have hcl := chars_length s 0
  have hl := len_any W p s (by unfold maxLen; omega) hP
  have hmx : max a 0 = ((a.toNat : Nat) : Int) := by omega
  obtain ⟨b, g, cap, rfl, hbl, hrow⟩ := hP
  obtain ⟨k0, k1⟩ := cells2 hbl
  have HPC := hide (places_cell (n := 0) hrow)
  clear hrow hbl
  clear hmx
  obtain ⟨M, hM⟩ : ∃ M, a.toNat = M := ⟨_, rfl⟩
  rw [hM]
  have hca : (a < 0 ∧ decide (a < 0) = true ∧ M = 0) ∨ a = (M : Int) := by
    by_cases h : a < 0
    · left; exact ⟨h, by simpa using h, by omega⟩
    · right; omega
  clear hM
  rcases hca with ⟨ha0, ha1, rfl⟩ | rfl
  · by_cases hML : 0 < (chars s 0).length
    · have k2 := unhide HPC 0 (by omega)
      have hsl := start_lt s 0 hML
      have hLd : decide (((chars s 0).length : Int) ≤ (0 : Int)) = false := decide_eq_false (by omega)
      have hLdN : decide ((chars s 0).length ≤ 0) = false := decide_eq_false (by omega)
      have hce : (chars s 0 = []) = False := eq_false (fun h => by rw [h] at hML; simp at hML)
      have HST : Hid (∀ q, 0 ≤ q → q < (chars s 0).length → startN s (q + 1) = startN s q + (Utf8.decode s (startN s q)).2 ∧ startN s q < s.size ∧ startN s 0 ≤ startN s q) := hide fun q hq hj => ⟨start_next s q hj, start_lt s q hj, start_le s 0 q hq (by omega)⟩
      have HSL := hide (start_len s)
      have hex := extract_size s (startN s 0)
      generalize hA : startN s 0 = A at *
      have HA := hide hA
      clear hA
      generalize hT : s.extract A s.size = T at *
      have HT := hide hT
      clear hT
      gi_wp2_with (gi_at_call 44; refine (callsIn_wide.2 hl).mono ?_; rintro e w' ⟨rfl, rfl⟩)
      refine wpIn_wide.2 ?_
      go_region
      rw [unhide HT]
      obtain ⟨W1, hW1⟩ : ∃ W1, w'.drew.iter T 0 = W1 := ⟨_, rfl⟩
      have hit0 : W1.heap[w'.heap.size]? = some (.stringIter T 0) := by rw [← hW1]; exact heap_alloc_new w'.drew _
      have gr1 : w'.grownBy W1 none := by
        rw [← hW1]
        exact (⟨rfl, rfl, rfl, Nat.le_refl _, fun _ _ _ => rfl⟩ : w'.grownBy w'.drew none).trans (World.grownBy_alloc w'.drew _ none)
      have hJ1 : J [] W1 := hJ _ _ _ none h0 gr1 (fun r e => by cases e)
      rw [hW1]
      clear hW1 gr1 h0 c0 c1 k0 k1 k2 hl HPC hLd hLdN hBp hBa hce
      gi_wp2
      gi_loopw [4] (fun v4 wr => ∃ (q pos : Nat) (pre : List (Ch s)), 0 ≤ q ∧ q ≤ (chars s 0).length ∧ v4 = .int .i64 q ∧ Hid (A + pos = startN s q) ∧ Hid (pre.map (·.1) = List.range' 0 (q - 0)) ∧ wr.heap[w'.heap.size]? = some (.stringIter T pos) ∧ J pre wr)
        (fun _ wr => T.size - wr.iterPos w'.heap.size)
      case atStart => exact ⟨0, 0, [], Nat.le_refl _, by omega, rfl, hide (by rw [Nat.add_zero, unhide HA]), hide (by rw [Nat.sub_self]; rfl), hit0, hJ1⟩
      case round =>
        clear hit0 hJ1
        obtain ⟨q, pos, pre, hq, hj, rfl, HPO, HP, hit, hJs⟩ := hrel
        have hpre : pre.length = q - 0 := by
          have := congrArg List.length HP.out
          simpa using this
        by_cases hlt : q < (chars s 0).length
        · obtain ⟨e1, e2, e3⟩ := unhide HST q hq hlt
          have hpT : pos < T.size := by have := HPO.out; omega
          have hdT : Utf8.decode T pos = Utf8.decode s (startN s q) := by
            rw [← unhide HT, decode_at s A pos (by have := HPO.out; omega), HPO.out]
          have hnx := fun ty => run_next_any_at (P := Try.prog) wr w'.heap.size T pos ty hit hpT
          have hit2 := iterAt_heap wr w'.heap.size T pos (pos + (Utf8.decode T pos).2) hit
          have hb := dec_bounds T pos hpT
          have hJ2 : J pre (wr.iterAt w'.heap.size T (pos + (Utf8.decode T pos).2)) := hJ _ _ _ (some w'.heap.size) hJs (grownBy_iterAt wr w'.heap.size T _) (fun r e => by cases e; exact ⟨Nat.le_refl _, _, hit, rfl⟩)
          have HPO2 : Hid (A + (pos + (Utf8.decode T pos).2) = startN s (q + 1)) := by
            show _ = _
            have := HPO.out
            rw [hdT, e1]; omega
          have HP2 : Hid ((pre ++ [(⟨q, hlt⟩ : Ch s)]).map (fun x : Ch s => x.1) = List.range' 0 (q + 1 - 0)) := by
            show _ = _
            rw [show q + 1 - 0 = (q - 0) + 1 by omega, List.range'_concat, List.map_append, HP.out, Nat.one_mul, show 0 + (q - 0) = q by omega]; rfl
          have hmeas : T.size - (pos + (Utf8.decode T pos).2) < T.size - wr.iterPos w'.heap.size := by rw [iterPos_of hit]; omega
          obtain ⟨fn, tmps, assign, body, hy, hR⟩ := hY pre ⟨q, hlt⟩ _ hJ2 (by omega)
          dsimp only [walkVals] at hy
          rw [← hdT] at hy
          generalize hW3 : wr.iterAt w'.heap.size T (pos + (Utf8.decode T pos).2) = W3 at *
          have HDT := hide hdT
          clear hW3 hdT e1 hpre
          gi_wp2
          refine hR.mono ?_
          rintro e W5 (⟨rfl, hJ5, hk5⟩ | ⟨rfl, hJx5⟩)
          · have hit5 := walks_iter hk5 hit2
            gi_wp2
            go_roundw
            case rel => exact ⟨q + 1, _, _, by omega, by omega, by go_num, HPO2, HP2, hit5, hJ5⟩
            case measure => rw [iterPos_of hit5]; exact hmeas
          · gi_wp2
            refine bodyPost_ret (results_none rfl _ _ _) rfl ?_
            refine ⟨⟨_, rfl⟩, .inr ⟨_, ?_, hJx5⟩⟩
            rw [HP2.out]
            refine ⟨List.range' (0 + (q + 1 - 0)) ((chars s 0).length - (q + 1)), ?_⟩
            rw [List.range'_append_1]
            congr 1
            omega
        · have hpT : ¬ pos < T.size := by
            have h1 := HPO.out
            rw [show q = (chars s 0).length by omega, unhide HSL] at h1
            omega
          have hnx := fun ty => run_next_end_at (P := Try.prog) wr w'.heap.size T pos ty hit hpT
          have HE : Hid (pre.map (·.1) = List.range' 0 ((chars s 0).length - 0)) := by
            show _ = _
            rw [HP.out]; congr 1; omega
          gi_wp2
          go_end0
          exact ⟨⟨_, rfl⟩, .inl ⟨pre, HE.out, hJs⟩⟩
    · have hLd : decide (((chars s 0).length : Int) ≤ (0 : Int)) = true := decide_eq_true (by omega)
      have hce : (chars s 0 = []) = True := eq_true (List.eq_nil_of_length_eq_zero (by omega))
      have HE : Hid (List.range' 0 ((chars s 0).length - 0) = []) := by
        show _ = _
        rw [show (chars s 0).length - 0 = 0 by omega]; rfl
      gi_wp2_with (gi_at_call 44; refine (callsIn_wide.2 hl).mono ?_; rintro e w' ⟨rfl, rfl⟩)
      refine bodyPost_ret (results_none rfl _ _ _) rfl ?_
      exact ⟨⟨_, rfl⟩, .inl ⟨[], by rw [HE.out]; rfl, h0⟩⟩
  · by_cases hML : M < (chars s 0).length
    · have k2 := unhide HPC M (by omega)
      have hsl := start_lt s M hML
      have hLd : decide (((chars s 0).length : Int) ≤ (M : Int)) = false := decide_eq_false (by omega)
      have hLdN : decide ((chars s 0).length ≤ M) = false := decide_eq_false (by omega)
      have HST : Hid (∀ q, M ≤ q → q < (chars s 0).length → startN s (q + 1) = startN s q + (Utf8.decode s (startN s q)).2 ∧ startN s q < s.size ∧ startN s M ≤ startN s q) := hide fun q hq hj => ⟨start_next s q hj, start_lt s q hj, start_le s M q hq (by omega)⟩
      have HSL := hide (start_len s)
      have hex := extract_size s (startN s M)
      generalize hA : startN s M = A at *
      have HA := hide hA
      clear hA
      generalize hT : s.extract A s.size = T at *
      have HT := hide hT
      clear hT
      gi_wp2_with (gi_at_call 44; refine (callsIn_wide.2 hl).mono ?_; rintro e w' ⟨rfl, rfl⟩)
      refine wpIn_wide.2 ?_
      go_region
      rw [unhide HT]
      obtain ⟨W1, hW1⟩ : ∃ W1, w'.drew.iter T 0 = W1 := ⟨_, rfl⟩
      have hit0 : W1.heap[w'.heap.size]? = some (.stringIter T 0) := by rw [← hW1]; exact heap_alloc_new w'.drew _
      have gr1 : w'.grownBy W1 none := by
        rw [← hW1]
        exact (⟨rfl, rfl, rfl, Nat.le_refl _, fun _ _ _ => rfl⟩ : w'.grownBy w'.drew none).trans (World.grownBy_alloc w'.drew _ none)
      have hJ1 : J [] W1 := hJ _ _ _ none h0 gr1 (fun r e => by cases e)
      rw [hW1]
      clear hW1 gr1 h0 c0 c1 k0 k1 k2 hl HPC hLd hLdN hBp hBa
      gi_wp2
      gi_loopw [4] (fun v4 wr => ∃ (q pos : Nat) (pre : List (Ch s)), M ≤ q ∧ q ≤ (chars s 0).length ∧ v4 = .int .i64 q ∧ Hid (A + pos = startN s q) ∧ Hid (pre.map (·.1) = List.range' M (q - M)) ∧ wr.heap[w'.heap.size]? = some (.stringIter T pos) ∧ J pre wr)
        (fun _ wr => T.size - wr.iterPos w'.heap.size)
      case atStart => exact ⟨M, 0, [], Nat.le_refl _, by omega, rfl, hide (by rw [Nat.add_zero, unhide HA]), hide (by rw [Nat.sub_self]; rfl), hit0, hJ1⟩
      case round =>
        clear hit0 hJ1
        obtain ⟨q, pos, pre, hq, hj, rfl, HPO, HP, hit, hJs⟩ := hrel
        have hpre : pre.length = q - M := by
          have := congrArg List.length HP.out
          simpa using this
        by_cases hlt : q < (chars s 0).length
        · obtain ⟨e1, e2, e3⟩ := unhide HST q hq hlt
          have hpT : pos < T.size := by have := HPO.out; omega
          have hdT : Utf8.decode T pos = Utf8.decode s (startN s q) := by
            rw [← unhide HT, decode_at s A pos (by have := HPO.out; omega), HPO.out]
          have hnx := fun ty => run_next_any_at (P := Try.prog) wr w'.heap.size T pos ty hit hpT
          have hit2 := iterAt_heap wr w'.heap.size T pos (pos + (Utf8.decode T pos).2) hit
          have hb := dec_bounds T pos hpT
          have hJ2 : J pre (wr.iterAt w'.heap.size T (pos + (Utf8.decode T pos).2)) := hJ _ _ _ (some w'.heap.size) hJs (grownBy_iterAt wr w'.heap.size T _) (fun r e => by cases e; exact ⟨Nat.le_refl _, _, hit, rfl⟩)
          have HPO2 : Hid (A + (pos + (Utf8.decode T pos).2) = startN s (q + 1)) := by
            show _ = _
            have := HPO.out
            rw [hdT, e1]; omega
          have HP2 : Hid ((pre ++ [(⟨q, hlt⟩ : Ch s)]).map (fun x : Ch s => x.1) = List.range' M (q + 1 - M)) := by
            show _ = _
            rw [show q + 1 - M = (q - M) + 1 by omega, List.range'_concat, List.map_append, HP.out, Nat.one_mul, show M + (q - M) = q by omega]; rfl
          have hmeas : T.size - (pos + (Utf8.decode T pos).2) < T.size - wr.iterPos w'.heap.size := by rw [iterPos_of hit]; omega
          obtain ⟨fn, tmps, assign, body, hy, hR⟩ := hY pre ⟨q, hlt⟩ _ hJ2 (by omega)
          dsimp only [walkVals] at hy
          rw [← hdT] at hy
          generalize hW3 : wr.iterAt w'.heap.size T (pos + (Utf8.decode T pos).2) = W3 at *
          have HDT := hide hdT
          clear hW3 hdT e1 hpre
          gi_wp2
          refine hR.mono ?_
          rintro e W5 (⟨rfl, hJ5, hk5⟩ | ⟨rfl, hJx5⟩)
          · have hit5 := walks_iter hk5 hit2
            gi_wp2
            go_roundw
            case rel => exact ⟨q + 1, _, _, by omega, by omega, by go_num, HPO2, HP2, hit5, hJ5⟩
            case measure => rw [iterPos_of hit5]; exact hmeas
          · gi_wp2
            refine bodyPost_ret (results_none rfl _ _ _) rfl ?_
            refine ⟨⟨_, rfl⟩, .inr ⟨_, ?_, hJx5⟩⟩
            rw [HP2.out]
            refine ⟨List.range' (M + (q + 1 - M)) ((chars s 0).length - (q + 1)), ?_⟩
            rw [List.range'_append_1]
            congr 1
            omega
        · have hpT : ¬ pos < T.size := by
            have h1 := HPO.out
            rw [show q = (chars s 0).length by omega, unhide HSL] at h1
            omega
          have hnx := fun ty => run_next_end_at (P := Try.prog) wr w'.heap.size T pos ty hit hpT
          have HE : Hid (pre.map (·.1) = List.range' M ((chars s 0).length - M)) := by
            show _ = _
            rw [HP.out]; congr 1; omega
          gi_wp2
          go_end0
          exact ⟨⟨_, rfl⟩, .inl ⟨pre, HE.out, hJs⟩⟩
    · have hLd : decide (((chars s 0).length : Int) ≤ (M : Int)) = true := decide_eq_true (by omega)
      have HE : Hid (List.range' M ((chars s 0).length - M) = []) := by
        show _ = _
        rw [show (chars s 0).length - M = 0 by omega]; rfl
      gi_wp2_with (gi_at_call 44; refine (callsIn_wide.2 hl).mono ?_; rintro e w' ⟨rfl, rfl⟩)
      refine bodyPost_ret (results_none rfl _ _ _) rfl ?_
      exact ⟨⟨_, rfl⟩, .inl ⟨[], by rw [HE.out]; rfl, h0⟩⟩

theorem walkIt_stops (s : ByteArray) (hs : s.size ≤ 4398046511104) (p : Value) (n Bp Ba : Nat) (hn : 1 ≤ n) (a : Int) (ha : a ≤ 9223372036854775807) (w : World) (hBp : Boxed w Bp 64 p) (hBa : Boxed w Ba 3 (.int .i64 a)) (hP : IsPlaces w p s) :
    SeqStopsK Fence.wide n Try.prog 63 #[.pointer (some ⟨Ba, 0, none⟩), .pointer (some ⟨Bp, 0, none⟩)] (walkVals s) KeepsWalks (fun xs => xs.map (·.1) = List.range' a.toNat ((chars s 0).length - a.toNat)) (fun pre => pre.map (·.1) <+: List.range' a.toNat ((chars s 0).length - a.toNat)) s.size w :=
  fun l J Jx W hW hJ _ hY h0 => walk1_in s hs p n l Bp Ba hn a ha J Jx hY W hJ ((hW.block Bp hBp.lt).trans hBp) ((hW.block Ba hBa.lt).trans hBa) (hP.below hW) h0

end Go.Proofs.Ytgffibonikcecaa
