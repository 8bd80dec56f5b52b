/-
  Or and And of two sets.
-/
import Derived.Test.YtgmneohngadpeaaGreatDoorB7
namespace Go.Proofs.YtgmneohngadpeaaGreatDoor
set_option linter.unusedVariables false
set_option linter.unusedSimpArgs false
open Go.RowKit

theorem or_c (x y : Nat) (w : World) (hx : x < 18446744073709551616) (hy : y < 18446744073709551616) : Calls Tryz.prog 134 #[.int .u64 x, .int .u64 y] w fun e w' => e = .returned (.int .u64 (x ||| y : Nat)) ∧ w = w' := by
  have h := u64_or_nat x y hx hy
  go_enter Tryz.func134, Tryz.ntmps134
  go_wp2
  go_ret
  exact ⟨rfl, rfl⟩
theorem ne_cast (z x : Nat) : ((z : Int) != (x : Int)) = (z != x) := by
  rw [Bool.eq_iff_iff]
  simp
  omega

/-- How words are joined, and how bits are. -/
structure Joins (op : Nat → Nat → Nat) (opB : Bool → Bool → Bool) : Prop where
  bit : ∀ x y i, (op x y).testBit i = opB (x.testBit i) (y.testBit i)
  small : ∀ x y, x < 18446744073709551616 → y < 18446744073709551616 → op x y < 18446744073709551616
  none : opB false false = false
theorem joins_or : Joins (fun x y => x ||| y) (fun a b => a || b) := ⟨fun x y i => Nat.testBit_or x y i, fun x y hx hy => Nat.or_lt_two_pow (n := 64) hx hy, rfl⟩
theorem joins_and : Joins (fun x y => x &&& y) (fun a b => a && b) := ⟨fun x y i => Nat.testBit_and x y i, fun x y hx hy => Nat.lt_of_le_of_lt Nat.and_le_left hx, rfl⟩

/-- Some word below k is other than it was. -/
def chg (op : Nat → Nat → Nat) (ws vs : List Nat) (k : Nat) : Bool := (List.range k).any fun j => op (ws.getD j 0) (vs.getD j 0) != ws.getD j 0
theorem chg_succ (op : Nat → Nat → Nat) (ws vs : List Nat) (k : Nat) : chg op ws vs (k + 1) = (chg op ws vs k || op (ws.getD k 0) (vs.getD k 0) != ws.getD k 0) := by
  unfold chg
  rw [List.range_succ, List.any_append]
  simp
/-- The first k words are joined, the others as they were. -/
def Half (op : Nat → Nat → Nat) (ws vs us : List Nat) (k : Nat) : Prop := ∀ j, us.getD j 0 = if j < k then op (ws.getD j 0) (vs.getD j 0) else ws.getD j 0
theorem Half.start (op : Nat → Nat → Nat) (ws vs : List Nat) : Half op ws vs ws 0 := fun j => by rw [if_neg (by omega)]
theorem Half.step {op : Nat → Nat → Nat} {ws vs us : List Nat} {k : Nat} (h : Half op ws vs us k) (hk : k < us.length) : Half op ws vs (us.set k (op (ws.getD k 0) (vs.getD k 0))) (k + 1) := fun j => by
  rw [List.getD_eq_getElem?_getD, List.getElem?_set]
  by_cases e : k = j
  · subst e
    rw [if_pos rfl, if_pos hk, if_pos (by omega)]
    rfl
  · rw [if_neg e, ← List.getD_eq_getElem?_getD, h j]
    by_cases h1 : j < k
    · rw [if_pos h1, if_pos (by omega)]
    · rw [if_neg h1, if_neg (by omega)]
theorem Half.bit {op : Nat → Nat → Nat} {opB : Bool → Bool → Bool} (J : Joins op opB) {ws vs us : List Nat} (h : Half op ws vs us ws.length) (hl : vs.length = ws.length) (i : Nat) : bit us i = opB (bit ws i) (bit vs i) := by
  unfold Go.Proofs.YtgmneohngadpeaaGreatDoor.bit
  rw [h]
  split
  · exact J.bit _ _ _
  · rename_i hn
    have e1 : ws.getD (i / 64) 0 = 0 := by rw [List.getD_eq_getElem?_getD, List.getElem?_eq_none (by omega)]; rfl
    have e2 : vs.getD (i / 64) 0 = 0 := by rw [List.getD_eq_getElem?_getD, List.getElem?_eq_none (by omega)]; rfl
    rw [e1, e2]
    simp [J.none]
theorem chg_iff {op : Nat → Nat → Nat} {opB : Bool → Bool → Bool} (J : Joins op opB) (ws vs : List Nat) (hl : vs.length = ws.length) (h1 : ∀ j, ws.getD j 0 < 18446744073709551616) (h2 : ∀ j, vs.getD j 0 < 18446744073709551616) :
    chg op ws vs ws.length = true ↔ ∃ i, opB (bit ws i) (bit vs i) ≠ bit ws i := by
  unfold chg
  rw [List.any_eq_true]
  constructor
  · rintro ⟨j, hj, hne⟩
    have hne' : op (ws.getD j 0) (vs.getD j 0) ≠ ws.getD j 0 := by simpa using hne
    apply Classical.byContradiction
    intro hall
    apply hne'
    apply Nat.eq_of_testBit_eq
    intro k
    rw [J.bit]
    by_cases hk : k < 64
    · have h := Classical.byContradiction fun h' => hall ⟨64 * j + k, h'⟩
      have e1 : (64 * j + k) / 64 = j := by omega
      have e2 : (64 * j + k) % 64 = k := by omega
      unfold Go.Proofs.YtgmneohngadpeaaGreatDoor.bit at h
      rw [e1, e2] at h
      exact h
    · rw [Nat.testBit_lt_two_pow (Nat.lt_of_lt_of_le (h1 j) (Nat.pow_le_pow_right (n := 2) (i := 64) (by decide) (by omega))), Nat.testBit_lt_two_pow (Nat.lt_of_lt_of_le (h2 j) (Nat.pow_le_pow_right (n := 2) (i := 64) (by decide) (by omega)))]
      exact J.none
  · rintro ⟨i, hi⟩
    have hj : i / 64 < ws.length := by
      rcases Nat.lt_or_ge (i / 64) ws.length with h | h
      · exact h
      · exfalso
        apply hi
        unfold Go.Proofs.YtgmneohngadpeaaGreatDoor.bit
        have e1 : ws.getD (i / 64) 0 = 0 := by rw [List.getD_eq_getElem?_getD, List.getElem?_eq_none (by omega)]; rfl
        have e2 : vs.getD (i / 64) 0 = 0 := by rw [List.getD_eq_getElem?_getD, List.getElem?_eq_none (by omega)]; rfl
        rw [e1, e2]
        simp [J.none]
    refine ⟨i / 64, List.mem_range.2 hj, ?_⟩
    simp only [bne_iff_ne, ne_eq]
    intro e
    apply hi
    unfold Go.Proofs.YtgmneohngadpeaaGreatDoor.bit
    rw [← J.bit, e]

set_option maxHeartbeats 2000000 in
theorem merge_or (b n c : Nat) (ws : List Nat) (b2 c2 : Nat) (vs : List Nat) (w : World) (h : SetAt w b n c ws) (h' : SetAt w b2 n c2 vs) (hb : b2 ≠ c) (hc : c2 ≠ c) :
    Calls Tryz.prog 133 #[.pointer (some ⟨b, 0, none⟩), .pointer (some ⟨b2, 0, none⟩), .func (.func 134) #[] #[]] w fun e w' => e = .returned (.tuple #[.bool (chg (fun x y => x ||| y) ws vs ws.length), .int .i64 0]) ∧ (∃ us, SetAt w' b n c us ∧ Half (fun x y => x ||| y) ws vs us ws.length) ∧ Beside c w w' ∧ w'.heap.size = w.heap.size := by
  have c0 := h.c0
  have d0 := h'.c0
  have c1 := h.c1
  have d1 := h'.c1
  have d2 := h'.c2
  have hlv : vs.length = ws.length := by rw [h.len, h'.len]
  rw [hlv] at d2
  have hm : (ws.length : Int) ≤ 64 := by have := h.len; have := h.bound; omega
  have hnn : ((n : Int) == (n : Int)) = true := by simp
  have W := hid h
  have V := hid h'
  have M0 := hid (isMade_at b true w c0)
  have M1 := hid (isMade_at b2 true w d0)
  clear h h' c0 d0
  go_enter Tryz.func133, Tryz.ntmps133
  go_wp2_with fail
  refine M0.out.mono ?_
  rintro e w' ⟨rfl, rfl⟩
  go_wp2_with fail
  refine M1.out.mono ?_
  rintro e w' ⟨rfl, rfl⟩
  go_wp2_with fail
  go_quiet (fail)
  go_wp2_with fail
  clear c1 d1 d2 M0 M1
  go_loopg [8, 9, 10, 11, 34] ws.length (fun g ch _ _ _ i wr => ∃ (k : Nat) (us : List Nat), k ≤ ws.length ∧ ws.length - k ≤ g ∧ i = .int .i64 k ∧ ch = .bool (chg (fun x y => x ||| y) ws vs k) ∧ Aside (SetAt wr b n c us) ∧ Aside (Half (fun x y => x ||| y) ws vs us k) ∧ Aside (Beside c w wr) ∧ Aside (wr.heap.size = w.heap.size))
  case atStart => exact ⟨0, ws, Nat.zero_le _, by omega, rfl, rfl, W.out.later (below_drewN (Below.refl _ _) _), Half.start _ _ _, (Beside.refl _ _).drewN _, rfl⟩
  case round =>
    obtain ⟨k, us, hk, hg, rfl, rfl, SX, HX, BX, ZX⟩ := hrel
    by_cases hlt : k < ws.length
    · have hlu : us.length = ws.length := by rw [SX.out.len, W.out.len]
      have hlti : (k : Int) < ws.length := by omega
      have VX := V.out.beside BX.out hb hc
      have e2 := SX.out.c2
      rw [hlu] at e2
      have ex := SX.out.word k (by omega)
      have efr := SX.out.free k
      have eux : us.getD k 0 = ws.getD k 0 := by rw [HX.out k, if_neg (by omega)]
      rw [eux] at ex
      have ey := VX.word k (by omega)
      have hx := W.out.lt k
      have hy := V.out.lt k
      have HS := hid (HX.out.step (by omega))
      have HC := hid (chg_succ (fun x y => x ||| y) ws vs k)
      have SP := hid (SX.out.put k ((fun x y => x ||| y) (ws.getD k 0) (vs.getD k 0)) (joins_or.small _ _ hx hy))
      have hcall := hid (fun W' => or_c (ws.getD k 0) (vs.getD k 0) W' hx hy)
      have BP := hid (BX.out.setCell (p := ⟨c, k, none⟩) rfl (.int .u64 ((fun x y => x ||| y) (ws.getD k 0) (vs.getD k 0) : Nat)))
      clear VX eux
      generalize chg (fun x y => x ||| y) ws vs k = t at *
      generalize ws.getD k 0 = x at *
      generalize vs.getD k 0 = y at *
      simp only [] at HS HC SP hcall BP
      generalize (x ||| y) = z at *
      cases t
      · by_cases hzx : z = x
        · have q : ((z : Int) == (x : Int)) = true := by simp; omega
          have HZX := hid hzx
          clear hzx
          go_wp2_with (go_at_call 134; refine (hcall.out _).mono ?_; rintro e w' ⟨rfl, rfl⟩)
          go_roundg (ws.length - (k + 1))
          · exact ⟨k + 1, _, by omega, by omega, by go_num, by rw [HC.out]; first | (simp [HZX.out]; done) | (simp [HZX.out]; exact ne_cast _ _), SP.out, HS.out, BP.out, by simp [World.setCell]; exact ZX.out⟩
          · omega
        · have q : ((z : Int) == (x : Int)) = false := by simp; omega
          have HZX := hid hzx
          clear hzx
          go_wp2_with (go_at_call 134; refine (hcall.out _).mono ?_; rintro e w' ⟨rfl, rfl⟩)
          go_roundg (ws.length - (k + 1))
          · exact ⟨k + 1, _, by omega, by omega, by go_num, by rw [HC.out]; first | (simp [HZX.out]; done) | (simp [HZX.out]; exact ne_cast _ _), SP.out, HS.out, BP.out, by simp [World.setCell]; exact ZX.out⟩
          · omega
      · go_wp2_with (go_at_call 134; refine (hcall.out _).mono ?_; rintro e w' ⟨rfl, rfl⟩)
        go_roundg (ws.length - (k + 1))
        · exact ⟨k + 1, _, by omega, by omega, by go_num, by rw [HC.out]; simp, SP.out, HS.out, BP.out, by simp [World.setCell]; exact ZX.out⟩
        · omega
    · have hlti : ¬ (k : Int) < ws.length := by omega
      have ek : ws.length = k := by omega
      have HX2 := HX.out
      rw [← ek] at HX2
      have HX3 := hid HX2
      clear HX2
      rw [← ek]
      clear ek
      go_wp2_with fail
      go_ret2
      exact ⟨rfl, ⟨us, SX.out, HX3.out⟩, BX.out, ZX.out⟩
theorem or_is (b n c : Nat) (f : Nat → Bool) (b2 c2 : Nat) (g : Nat → Bool) (w : World) (h : Is w b n c f) (h' : Is w b2 n c2 g) (hb : b2 ≠ c) (hc : c2 ≠ c) :
    Calls Tryz.prog 110 #[.pointer (some ⟨b, 0, none⟩), .pointer (some ⟨b2, 0, none⟩)] w fun e w' => (∃ t : Bool, e = .returned (.tuple #[.bool t, .int .i64 0]) ∧ (t = true ↔ ∃ i, (f i || g i) ≠ f i)) ∧ Is w' b n c (fun i => f i || g i) ∧ Beside c w w' ∧ w'.heap.size = w.heap.size := by
  obtain ⟨ws, s1, s2⟩ := h.ex
  obtain ⟨vs, v1, v2⟩ := h'.ex
  have hlv : vs.length = ws.length := by rw [s1.len, v1.len]
  have M := hid (merge_or b n c ws b2 c2 vs w s1 v1 hb hc)
  have CI := hid (chg_iff joins_or ws vs hlv s1.lt v1.lt)
  have HB := hid (fun us (hh : Half (fun x y => x ||| y) ws vs us ws.length) i => Half.bit joins_or hh hlv i)
  have H := hid h
  have H' := hid h'
  have S2 := hid s2
  have V2 := hid v2
  clear h h' s1 v1 s2 v2
  go_enter Tryz.func110, Tryz.ntmps110
  go_wp2_with (go_at_call 133; refine M.out.mono ?_; rintro e w' ⟨rfl, ⟨us, u1, u2⟩, bs, zs⟩)
  go_ret2
  refine ⟨⟨_, rfl, ?_⟩, ⟨⟨us, u1, fun i => ?_⟩, fun i hi => ?_⟩, bs, zs⟩
  · rw [CI.out]
    simp only [S2.out, V2.out]
  · rw [HB.out us u2 i]
    simp only [S2.out, V2.out]
  · have e1 := H.out.top i hi
    have e2 := H'.out.top i hi
    simp [e1, e2]
end Go.Proofs.YtgmneohngadpeaaGreatDoor
