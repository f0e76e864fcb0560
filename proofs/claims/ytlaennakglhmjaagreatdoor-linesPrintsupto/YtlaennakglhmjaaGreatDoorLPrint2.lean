/-
  isSame and Print of package lines, for every line.
-/
import Derived.Test.YtlaennakglhmjaaGreatDoorLPrint
namespace Go.Proofs.YtlaennakglhmjaaGreatDoor
open Go.RowKit Go.PlainAid Go.Lib Go.Shelf
set_option linter.unusedVariables false

theorem equal_any (a b : Option Addr) (n m ca cb : Nat) (l k : List (List UInt8)) (w : World) (hn : l.length = n) (hm : k.length = m) (hnb : n ≤ 1099511627776) (hmb : m ≤ 1099511627776) (ha : TxO w a l) (hb : TxO w b k) :
    Calls Tryz.prog 45 #[.slice a n ca, .slice b m cb] w fun e w' => e = .returned (.bool (decide (l = k))) ∧ ∃ q, w' = w.drewN q := by
  by_cases hnm : n = m
  · subst hnm
    by_cases h0 : n = 0
    · subst h0
      have e1 : l = [] := List.eq_nil_of_length_eq_zero hn
      have e2 : k = [] := List.eq_nil_of_length_eq_zero hm
      subst e1 e2
      refine (Tryz.slices_Equal_string_empty a b ca 0 cb w (by omega)).mono fun e w' h => ⟨h.1, 0, h.2⟩
    · obtain ⟨g, o, rfl, hg, hcl⟩ := ha.addr (by omega)
      obtain ⟨g', o', rfl, hg', hcl'⟩ := hb.addr (by omega)
      have cc : ∀ (l : List (List UInt8)) (g o : Nat), (∀ (i : Nat) (x : List UInt8), l[i]? = some x → w.cell? ⟨g, o + i, none⟩ = some (.string (S x))) → ∀ j, j < (l.map S).length → w.cell? ⟨g, o + j, none⟩ = some (.string ((l.map S).getD j ByteArray.empty)) := by
        intro l g o h j hj
        rw [List.length_map] at hj
        rw [h j _ (List.getElem?_eq_getElem hj)]
        simp [List.getD, hj]
      have := Tryz.slices_Equal_string g o n ca g' o' n cb (l.map S) (k.map S) w (by rw [List.length_map]; omega) (by rw [List.length_map]; omega) (by omega) (by omega) (cc l g o hcl) (cc k g' o' hcl')
      refine this.mono fun e w' h => ⟨h.1.trans ?_, h.2⟩
      rw [List.take_of_length_le (by rw [List.length_map]; omega), List.take_of_length_le (by rw [List.length_map]; omega)]
      have : (l.map S = k.map S) ↔ l = k := ⟨fun h => by
        have := congrArg (List.map L) h
        rw [List.map_map, List.map_map] at this
        have e : ∀ l : List (List UInt8), l.map (L ∘ S) = l := fun l => (List.map_congr_left (fun x _ => L_S x)).trans (List.map_id l)
        rwa [e, e] at this, fun h => by rw [h]⟩
      simp only [this]
  · refine (Tryz.slices_Equal_string_lens a b n ca m cb w hnm).mono fun e w' h => ⟨h.1.trans ?_, 0, h.2⟩
    have : ¬ l = k := fun h => hnm (by rw [← hn, ← hm, h])
    rw [decide_eq_false this]

set_option maxRecDepth 100000 in
set_option maxHeartbeats 2000000 in
theorem isSame_any (d d' : LineD) (a b : Option Addr) (n m ca cb : Nat) (w : World) (hn : d.fields.length = n) (hm : d'.fields.length = m) (hnb : n ≤ 1099511627776) (hmb : m ≤ 1099511627776) (ha : TxO w a d.fields) (hb : TxO w b d'.fields) :
    Calls Tryz.prog 25 #[lineV d (.slice a n ca), lineV d' (.slice b m cb)] w fun e w' => ∃ t, e = .returned (.bool t) ∧ (t = true ↔ d = d') ∧ Below w.heap.size w w' := by
  have HE := hide (fun W (hB : Below w.heap.size w W) => equal_any a b n m ca cb d.fields d'.fields W hn hm hnb hmb (ha.below hB) (hb.below hB))
  obtain ⟨no, kind, name, fields, note⟩ := d
  obtain ⟨no', kind', name', fields', note'⟩ := d'
  simp only [lineV] at *
  have hEQ : ((⟨no, kind, name, fields, note⟩ : LineD) = ⟨no', kind', name', fields', note'⟩) ↔ (no = no' ∧ kind = kind' ∧ name = name' ∧ fields = fields' ∧ note = note') := by
    constructor
    · intro h; injection h with h1 h2 h3 h4 h5; exact ⟨h1, h2, h3, h4, h5⟩
    · rintro ⟨rfl, rfl, rfl, rfl, rfl⟩; rfl
  have HEQ := hide hEQ
  obtain ⟨W, hW⟩ : ∃ W, (w.alloc (.cells #[.int .i64 no, .int .u8 kind, .string (S name), .slice a n ca, .string (S note)] 41)).alloc (.cells #[.int .i64 no', .int .u8 kind', .string (S name'), .slice b m cb, .string (S note')] 41) = W := ⟨_, rfl⟩
  have hB : Below w.heap.size w W := by rw [← hW]; exact ((Below.refl _ w).alloc (Nat.le_refl _) _).alloc (by simp) _
  have g1 : W.heap[w.heap.size]? = some (.cells #[.int .i64 no, .int .u8 kind, .string (S name), .slice a n ca, .string (S note)] 41) := by
    rw [← hW, Below.heap_alloc _ _ _ (by simp)]; exact heap_alloc_new _ _
  have g2 : W.heap[w.heap.size + 1]? = some (.cells #[.int .i64 no', .int .u8 kind', .string (S name'), .slice b m cb, .string (S note')] 41) := by
    have := heap_alloc_new (w.alloc (.cells #[.int .i64 no, .int .u8 kind, .string (S name), .slice a n ca, .string (S note)] 41)) (.cells #[.int .i64 no', .int .u8 kind', .string (S name'), .slice b m cb, .string (S note')] 41)
    rw [hW] at this; simpa using this
  obtain ⟨c0, c1, c2, c3, c4, -, -, -, -, -⟩ := box5 g1
  obtain ⟨e0, e1, e2, e3, e4, -, -, -, -, -⟩ := box5 g2
  clear ha hb g1 g2 hEQ
  have neg : ∀ P : Prop, ¬ P → ((false = true) ↔ P) := fun P h => Iff.intro (fun k => Bool.noConfusion k) (fun k => absurd k h)
  by_cases k0 : no = no'
  rotate_left
  · have d0 : (no == no') = false := by simpa using k0
    have hne := hide (neg _ (fun h => k0 ((unhide HEQ).1 h).1))
    go_enter Tryz.func25, Tryz.ntmps25
    go_wp2_with fail
    go_ret
    first | exact ⟨_, rfl, unhide hne, hB⟩ | exact ⟨rfl, hB⟩ | exact hB
  by_cases k1 : kind = kind'
  rotate_left
  · have d0 : (kind == kind') = false := by simpa using k1
    have hne := hide (neg _ (fun h => k1 ((unhide HEQ).1 h).2.1))
    subst k0
    go_enter Tryz.func25, Tryz.ntmps25
    go_wp2_with fail
    go_ret
    first | exact ⟨_, rfl, unhide hne, hB⟩ | exact ⟨rfl, hB⟩ | exact hB
  by_cases k2 : name = name'
  rotate_left
  · have d0 : (name == name') = false := by simpa using k2
    have hne := hide (neg _ (fun h => k2 ((unhide HEQ).1 h).2.2.1))
    subst k0 k1
    go_enter Tryz.func25, Tryz.ntmps25
    go_wp2_with fail
    go_ret
    first | exact ⟨_, rfl, unhide hne, hB⟩ | exact ⟨rfl, hB⟩ | exact hB
  by_cases k3 : fields = fields'
  rotate_left
  · have hne := hide (neg _ (fun h => k3 ((unhide HEQ).1 h).2.2.2.1))
    subst k0 k1 k2
    have HE2 := hide (unhide HE W hB)
    rw [decide_eq_false k3] at HE2
    go_enter Tryz.func25, Tryz.ntmps25
    go_wp2_with fail
    refine (unhide HE2).mono ?_
    rintro e w' ⟨rfl, q, rfl⟩
    go_wp2
    go_ret
    exact ⟨_, rfl, unhide hne, below_drewN hB q⟩
  have HE2 := hide (unhide HE W hB)
  rw [decide_eq_true k3] at HE2
  by_cases k4 : note = note'
  · subst k0 k1 k2 k3 k4
    go_enter Tryz.func25, Tryz.ntmps25
    go_wp2_with fail
    refine (unhide HE2).mono ?_
    rintro e w' ⟨rfl, q, rfl⟩
    obtain ⟨WX, hWX⟩ : ∃ WX, W.drewN q = WX := ⟨_, rfl⟩
    have f4 : WX.cell? ⟨w.heap.size, 4, none⟩ = some (.string (S note)) := by rw [← hWX]; exact c4
    have h4 : WX.cell? ⟨w.heap.size + 1, 4, none⟩ = some (.string (S note)) := by rw [← hWX]; exact e4
    have hBX : Below w.heap.size w WX := by rw [← hWX]; exact below_drewN hB q
    rw [hWX]
    clear hWX
    go_wp2
    go_ret
    exact ⟨_, rfl, by simp, hBX⟩
  · have hne := hide (neg _ (fun h => k4 ((unhide HEQ).1 h).2.2.2.2))
    have d0 : (note == note') = false := by simpa using k4
    subst k0 k1 k2 k3
    go_enter Tryz.func25, Tryz.ntmps25
    go_wp2_with fail
    refine (unhide HE2).mono ?_
    rintro e w' ⟨rfl, q, rfl⟩
    obtain ⟨WX, hWX⟩ : ∃ WX, W.drewN q = WX := ⟨_, rfl⟩
    have f4 : WX.cell? ⟨w.heap.size, 4, none⟩ = some (.string (S note)) := by rw [← hWX]; exact c4
    have h4 : WX.cell? ⟨w.heap.size + 1, 4, none⟩ = some (.string (S note')) := by rw [← hWX]; exact e4
    have hBX : Below w.heap.size w WX := by rw [← hWX]; exact below_drewN hB q
    rw [hWX]
    clear hWX
    go_wp2
    go_ret
    exact ⟨_, rfl, unhide hne, hBX⟩

set_option maxRecDepth 100000 in
set_option maxHeartbeats 2000000 in
theorem print_any (d : LineD) (a : Option Addr) (n c : Nat) (w : World) (hn : d.fields.length = n) (hc : n ≤ c) (hb : n ≤ 1099511627776) (h : TxO w a d.fields) (hj : (joinS d.fields).size + d.name.length + d.note.length + 200 ≤ 1073741824) :
    Calls Tryz.prog 13 #[lineV d (.slice a n c)] w fun e w' => ∃ X code, e = .returned (.tuple #[.string X, .int .i64 code]) ∧ Below w.heap.size w w' ∧
      ((code = 0 ∧ X = writtenS d ∧ scanS d.no (writtenS d) = (d, 0)) ∨ (code = 34 ∧ X = S [] ∧ scanS d.no (writtenS d) ≠ (d, 0))) := by
  have HW := hide (fun W (hB : Below w.heap.size w W) => written_any d a n c W hn hc (by omega) (h.below hB) (by omega))
  have hws : (writtenS d).size ≤ 1073741824 := by
    have h1 := headS_size d
    unfold writtenS noteS
    have e1 : (S [32]).size = 1 := rfl
    have e2 : (S [35, 32]).size = 2 := rfl
    have e3 := S_size d.note
    (repeat' split) <;> (try simp only [ByteArray.size_append]) <;> omega
  have HSC := hide (fun W => scan_any d.no (writtenS d) W (by omega))
  have hsl := scan_len d.no (writtenS d)
  obtain ⟨D, C, hDC⟩ : ∃ D C, scanS d.no (writtenS d) = (D, C) := ⟨_, _, rfl⟩
  rw [hDC] at HSC hsl
  dsimp only at HSC hsl
  rw [hDC]
  generalize writtenS d = X at *
  have HIS := hide (fun W (hB : Below w.heap.size w W) (b : Option Addr) (cb : Nat) (hx : TxO W b D.fields) => isSame_any D d b a D.fields.length n cb c W rfl hn (by omega) hb hx (h.below hB))
  obtain ⟨no, kind, name, fields, note⟩ := d
  simp only [lineV] at *
  obtain ⟨W, hW⟩ : ∃ W, w.alloc (.cells #[.int .i64 no, .int .u8 kind, .string (S name), .slice a n c, .string (S note)] 41) = W := ⟨_, rfl⟩
  have hB : Below w.heap.size w W := by rw [← hW]; go_grown
  have gA : W.heap[w.heap.size]? = some (.cells #[.int .i64 no, .int .u8 kind, .string (S name), .slice a n c, .string (S note)] 41) := by rw [← hW]; exact heap_alloc_new w _
  have hlt : w.heap.size < W.heap.size := by rw [← hW]; simp
  obtain ⟨c0, c1, c2, c3, c4, -, -, -, -, -⟩ := box5 gA
  have HGA := hide gA
  clear gA h hDC
  go_enter Tryz.func13, Tryz.ntmps13
  go_wp2_with fail
  refine (unhide HW W hB).mono ?_
  rintro e w2 ⟨rfl, hb2⟩
  have gA := (hb2.block w.heap.size hlt).trans (unhide HGA)
  obtain ⟨e0, e1, e2, e3, e4, -, -, -, -, -⟩ := box5 gA
  have hB2 : Below w.heap.size w w2 := hB.trans (hb2.mono hB.size)
  have hlt2 : w.heap.size < w2.heap.size := Nat.lt_of_lt_of_le hlt hb2.size
  have HGA2 := hide gA
  clear gA c0 c1 c2 c3 c4 HW hb2
  go_wp2_with fail
  refine (unhide HSC _).mono ?_
  rintro e w3 ⟨fv, rfl, hfr, hb3⟩
  have hB3 : Below w.heap.size w w3 := hB2.trans (hb3.mono hB2.size)
  by_cases hC : C = 0
  · subst hC
    obtain ⟨fa, fc, rfl, htx⟩ := texts_row hfr
    obtain ⟨W4, hW4⟩ : ∃ W4, w3.alloc (.cells #[.int .i64 D.no, .int .u8 D.kind, .string (S D.name), .slice fa D.fields.length fc, .string (S D.note)] 41) = W4 := ⟨_, rfl⟩
    have bel4 : Below w3.heap.size w3 W4 := by rw [← hW4]; go_grown
    have g4 : W4.heap[w3.heap.size]? = some (.cells #[.int .i64 D.no, .int .u8 D.kind, .string (S D.name), .slice fa D.fields.length fc, .string (S D.note)] 41) := by rw [← hW4]; exact heap_alloc_new w3 _
    have g1 : W4.heap[w.heap.size]? = _ := (bel4.block w.heap.size (Nat.lt_of_lt_of_le hlt2 hb3.size)).trans ((hb3.block w.heap.size hlt2).trans (unhide HGA2))
    have hB4 : Below w.heap.size w W4 := hB3.trans (bel4.mono hB3.size)
    obtain ⟨p0, p1, p2, p3, p4, -, -, -, -, -⟩ := box5 g4
    obtain ⟨q0, q1, q2, q3, q4, -, -, -, -, -⟩ := box5 g1
    have HIS2 := hide (unhide HIS W4 hB4 fa fc ((TxO.of htx).below bel4))
    clear e0 e1 e2 e3 e4 g1 g4 bel4 hfr htx HIS HGA2 HGA HSC hb3 hB3 hB2
    go_wp2_with fail
    refine (unhide HIS2).mono ?_
    rintro e w5 ⟨t, rfl, ht, hb5⟩
    have hB5 : Below w.heap.size w w5 := hB4.trans (hb5.mono hB4.size)
    cases t with
    | true =>
      have hD : D = _ := ht.1 rfl
      go_wp2
      go_ret2
      exact ⟨_, _, rfl, hB5, .inl ⟨rfl, rfl, by rw [hD]⟩⟩
    | false =>
      have hD : ¬ D = _ := fun h => by have := ht.2 h; cases this
      go_wp2
      go_ret2
      exact ⟨_, _, rfl, hB5, .inr ⟨rfl, rfl, fun h => hD (congrArg Prod.fst h)⟩⟩
  · have dC : (C != 0) = true := by simpa using hC
    obtain ⟨fa, fc, rfl⟩ := row_slice2 hfr
    go_wp2
    go_ret2
    exact ⟨_, _, rfl, hB3.alloc hB3.size _, .inr ⟨rfl, rfl, fun h => hC (congrArg Prod.snd h)⟩⟩
end Go.Proofs.YtlaennakglhmjaaGreatDoor
