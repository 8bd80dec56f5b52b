/-
  A map by what it holds: whatever its elements are.
  cycles.Is: whether dependencies are a cycle of a class: the labels.
  cycles.Is: whether dependencies are a cycle of a class: fits, isRing, Is.
  cycles.Is: isRing, Is.
  awake: a ring of two is a cycle, and found.
-/
import Derived.ProofKit
import Derived.Maps.Own
import Derived.Maps.OwnSet
import Derived.Maps.Views
import Derived.Test.YtdihbeffomibeaaGreatDoorY20
import Derived.BigQuiet
import Derived.Shelf.SlSortCmp.QuietGrown
namespace Go.Proofs.YtdihbeffomibeaaGreatDoor
set_option linter.unusedVariables false
set_option linter.unusedSimpArgs false
open Go.RowKit Go.Maps

/-- A value reads as itself. -/
def rawR (v : Value) : Option (DataW Value × List MemPlace) := some (.held v, [])
/-- Block b is a map of at most n entries that holds f. -/
def MapV (w : World) (P : Program) (k : TypeId) (b n : Nat) (f : Value → Option Value) : Prop :=
  ∃ D : DataW Value, w.ownsMap P k rawR b n D ∧ ∀ key kl, keyOf P k key = some kl → ∀ zd, D.atKey kl zd = ((f key).map DataW.held).getD zd
theorem MapV.made (w : World) (P : Program) (k : TypeId) : MapV (w.alloc (.map #[] 0)) P k w.heap.size 0 (fun _ => none) :=
  ⟨_, World.ownsMap_made _ _ _ _, fun _ _ _ _ => rfl⟩
theorem MapV.lt {w : World} {P : Program} {k : TypeId} {b n : Nat} {f : Value → Option Value} (h : MapV w P k b n f) : b < w.heap.size := by
  obtain ⟨D, h1, _⟩ := h
  exact h1.lt
theorem MapV.same {w w' : World} {P : Program} {k : TypeId} {b n : Nat} {f : Value → Option Value} (h : MapV w P k b n f) (hb : w'.heap[b]? = w.heap[b]?) : MapV w' P k b n f := by
  obtain ⟨D, ⟨es, clock, h1, h2, h3, h4⟩, h5⟩ := h
  exact ⟨D, ⟨es, clock, hb.trans h1, h2, h3, h4⟩, h5⟩
theorem MapV.mono {w : World} {P : Program} {k : TypeId} {b n n' : Nat} {f : Value → Option Value} (h : MapV w P k b n f) (hn : n ≤ n') : MapV w P k b n' f := by
  obtain ⟨D, h1, h2⟩ := h
  exact ⟨D, h1.mono hn, h2⟩
theorem MapV.block {w : World} {P : Program} {k : TypeId} {b n : Nat} {f : Value → Option Value} (h : MapV w P k b n f) : ∃ es clock, w.heap[b]? = some (.map es clock) := by
  obtain ⟨D, ⟨es, clock, h1, h2, h3, h4⟩, h5⟩ := h
  exact ⟨es, clock, h1⟩
theorem MapV.find {w : World} {P : Program} {k t e : TypeId} {b n : Nat} {f : Value → Option Value} (h : MapV w P k b n f) (K : Keyed P k) (ht : P.underlying t = some (.map k e)) {z : Value} (hz : (zeroValue e).run P w = .ok z w)
    {key : Value} {kl : Lit} (hkey : keyOf P k key = some kl) (c : Bool) : (Instr.lookup t (.map (some b)) key c).run P w = .ok (if c then .tuple #[(f key).getD z, .bool (f key).isSome] else (f key).getD z) w := by
  obtain ⟨D, ⟨es, clock, hb, F, _, rfl⟩, h5⟩ := h
  have hat5 := h5 key kl hkey
  rcases fit_look c K ht hz hb F hkey with ⟨hrun, _, hat⟩ | ⟨e0, y, _, _, hrun, hRv, hat, _⟩
  · have e : f key = none := by
      cases hf : f key with
      | none => rfl
      | some v =>
        have h1 := hat5 .nil
        rw [hat, hf] at h1
        cases h1
    rw [hrun, e]
    rfl
  · have hy : y.1 = .held e0.val := by
      unfold rawR at hRv
      injection hRv with hRv
      rw [← hRv]
    have e : f key = some e0.val := by
      have h1 := hat5 .nil
      rw [hat, hy] at h1
      cases hf : f key with
      | none => rw [hf] at h1; cases h1
      | some v =>
        rw [hf] at h1
        injection h1 with h1
        rw [h1]
    rw [hrun, e]
    rfl
theorem MapV.look {w : World} {P : Program} {k t e : TypeId} {b n : Nat} {f : Value → Option Value} (h : MapV w P k b n f) (K : Keyed P k) (ht : P.underlying t = some (.map k e)) {z : Value} (hz : (zeroValue e).run P w = .ok z w)
    {key : Value} {kl : Lit} (hkey : keyOf P k key = some kl) : (Instr.lookup t (.map (some b)) key false).run P w = .ok ((f key).getD z) w := h.find K ht hz hkey false
theorem MapV.look_ok {w : World} {P : Program} {k t e : TypeId} {b n : Nat} {f : Value → Option Value} (h : MapV w P k b n f) (K : Keyed P k) (ht : P.underlying t = some (.map k e)) {z : Value} (hz : (zeroValue e).run P w = .ok z w)
    {key : Value} {kl : Lit} (hkey : keyOf P k key = some kl) : (Instr.lookup t (.map (some b)) key true).run P w = .ok (.tuple #[(f key).getD z, .bool (f key).isSome]) w := h.find K ht hz hkey true
/-- g is what is held behind a store. -/
def IsPut (f : Value → Option Value) (key val : Value) (g : Value → Option Value) : Prop := g key = some val ∧ ∀ x, x ≠ key → g x = f x
theorem put_ex (f : Value → Option Value) (key val : Value) : ∃ g, IsPut f key val g := by
  classical
  exact ⟨fun x => if x = key then some val else f x, by simp, fun x h => by simp [h]⟩
theorem MapV.put {w : World} {P : Program} {k t e : TypeId} {b n : Nat} {f : Value → Option Value} (h : MapV w P k b n f) (K : Keyed P k) (ht : P.underlying t = some (.map k e)) (hn : n < maxLen) {key : Value} (val : Value) {kl : Lit} (hkey : keyOf P k key = some kl) :
    ∃ w' g, (Instr.mapUpdate t (.map (some b)) key val).run P w = .ok () w' ∧ IsPut f key val g ∧ MapV w' P k b (n + 1) g ∧ w.grownBy w' (some b) := by
  obtain ⟨D, h1, h5⟩ := h
  obtain ⟨w', r1, r2, r3⟩ := h1.update K ht hn hkey (val := val) (d := .held val) (ps := []) rfl
  obtain ⟨g, hp⟩ := put_ex f key val
  refine ⟨w', g, r1, hp, ⟨_, r2, fun key' kl' hk' zd => ?_⟩, r3⟩
  by_cases ek : key' = key
  · subst ek
    rw [hkey] at hk'
    cases hk'
    rw [atKey_put_same h1.isMap (K.key hkey), hp.1]
    rfl
  · have hne : kl' ≠ kl := fun c => ek (K.inj (by rw [hk', c]) hkey)
    rw [atKey_put_other hne, h5 key' kl' hk', hp.2 _ ek]
/-- m[key] = val, in a walk. -/
theorem wpList_mapV {P : Program} {ops : Array Oper} {rest : List Oper} {o : Oper} {a : Act} {Q : Exit → Act → World → Prop} (w : World) (hg : o.guard = none) (m x v : Operand) (t : TypeId) (hop : o.op = Op.mapUpdate t m x v)
    (k e : TypeId) (K : Keyed P k) (ht : P.underlying t = some (.map k e)) (b n : Nat) (f : Value → Option Value) (hm : a.eval m = .map (some b)) (h : MapV w P k b n f) (hn : n < maxLen) (key val : Value) (kl : Lit) (hx : a.eval x = key) (hv : a.eval v = val) (hkey : keyOf P k key = some kl)
    (hK : ∀ w' g, IsPut f key val g → MapV w' P k b (n + 1) g → w.grownBy w' (some b) → wpList P ops Q rest (a.put o.dst undef) w') : wpList P ops Q (o :: rest) a w := by
  refine wpList_plain hg fun K' hK' => ?_
  obtain ⟨w', g, hrun, hp, r1, r2⟩ := h.put K ht hn val hkey
  unfold Oper.wp
  simp [execOp, hop, hm, hx, hv, hrun, Result.andThen]
  exact hK' _ _ (hK w' g hp r1 r2)
end Go.Proofs.YtdihbeffomibeaaGreatDoor
namespace Go.Proofs.YtdihbeffomibeaaGreatDoor
set_option linter.unusedVariables false
set_option linter.unusedSimpArgs false
open Go.RowKit Go.Lib Go.Maps

/-- The worlds behind w in which nothing of it has changed. -/
def BW (w : World) : Type := {W : World // Below w.heap.size w W}
theorem bwSome (w : World) : Nonempty (BW w) := ⟨⟨w, Below.refl _ _⟩⟩
theorem wp_region_quiet_below {P : Program} {id : Nat} {Q : Exit → Act → World → Prop} {a : Act} {w : World} {l : List Oper} (hm : P.follows .mixedOrders = true) (hB : Region.lexB .any l.toArray = true)
    (h : wpQuiet P l.toArray (fun w' => ∃ p : BW w, w' = p.val) (fun a' => ∀ w', (∃ p : BW w, w' = p.val) → Q .normal a' w') l a) : (Code.region id l.toArray true).wp P Q a w :=
  wp_region_quiet (C := fun w' => ∃ p : BW w, w' = p.val) hm hB ⟨⟨{ w with drawn := w.drawn + 1 }, ⟨rfl, rfl, rfl, Nat.le_refl _, fun _ _ => rfl⟩⟩, rfl⟩ (by simpa using h)
theorem cell_later {w w' : World} {a : Addr} {v : Value} (hb : Below w.heap.size w w') (h : w.cell? a = some v) : w'.cell? a = some v := (hb.cell (p := a) (World.block_lt_of_cell? _ _ h)).trans h
theorem bcell {w : World} {a : Addr} {v : Value} (h : w.cell? a = some v) : ∀ p : BW w, p.val.cell? a = some v := fun p => cell_later p.2 h
theorem bstep {w W W' : World} (k : Below W.heap.size W W') (h : Below w.heap.size w W) : Below w.heap.size w W' := h.trans (k.mono h.size)

/-- Whether a label is the wanted one. -/
def wantB (want l : Int) : Bool := l == want
theorem wants_at (c want oth x0 x1 x2 : Int) (x3 : ByteArray) (x4 x5 : Int) (x6 x7 : Bool) (w : World) : Calls Tryz.prog 51 #[.agg #[.int .i64 c, .int .i64 want, .int .i64 oth], .agg #[.int .i64 x0, .int .i64 x1, .int .i64 x2, .string x3, .int .i64 x4, .int .i64 x5, .bool x6, .bool x7]] w fun e w' => e = .returned (.bool (wantB want x2)) ∧ Below w.heap.size w w' := by
  go_enter Tryz.func51, Tryz.ntmps51
  go_wp2
  go_ret
  exact ⟨rfl, (below_box w _).alloc (by simp) _⟩
/-- Whether a label may not be one of the others'. -/
def barsB (oth l : Int) : Bool := strB l || (bits BinOp.and IntKind.i64 l oth == 0)
theorem bars_at (c want oth x0 x1 x2 : Int) (x3 : ByteArray) (x4 x5 : Int) (x6 x7 : Bool) (w : World) : Calls Tryz.prog 52 #[.agg #[.int .i64 c, .int .i64 want, .int .i64 oth], .agg #[.int .i64 x0, .int .i64 x1, .int .i64 x2, .string x3, .int .i64 x4, .int .i64 x5, .bool x6, .bool x7]] w fun e w' => e = .returned (.bool (barsB oth x2)) ∧ Below w.heap.size w w' := by
  have ST := hid (fun W => strange_at x0 x1 x2 x3 x4 x5 x6 x7 W)
  obtain ⟨t, ht⟩ : ∃ t, strB x2 = t := ⟨_, rfl⟩
  rw [ht] at ST
  have HT := hid ht
  clear ht
  obtain ⟨W1, hW1⟩ : ∃ W1, (w.alloc (.cells #[.int .i64 c, .int .i64 want, .int .i64 oth] 43)).alloc (.cells #[.int .i64 x0, .int .i64 x1, .int .i64 x2, .string x3, .int .i64 x4, .int .i64 x5, .bool x6, .bool x7] 25) = W1 := ⟨_, rfl⟩
  obtain ⟨K, hK⟩ : ∃ K, w.heap.size = K := ⟨_, rfl⟩
  have B1 : Hid (Below w.heap.size w W1) := by rw [← hW1]; exact (below_box w _).alloc (by simp) _
  have z1 : K + 1 < W1.heap.size := by rw [← hW1, ← hK]; simp
  have cr : W1.cell? ⟨K, 2, none⟩ = some (.int .i64 oth) := by
    rw [← hW1, ← hK]
    exact ((below_box _ _).cell (p := ⟨w.heap.size, 2, none⟩) (by simp)).trans (new_cells w _ _ 2)
  have nw := fun i => new_cells (w.alloc (.cells #[.int .i64 c, .int .i64 want, .int .i64 oth] 43)) #[.int .i64 x0, .int .i64 x1, .int .i64 x2, .string x3, .int .i64 x4, .int .i64 x5, .bool x6, .bool x7] 25 i
  simp only [World.size_alloc, hW1, hK] at nw
  have n0 : W1.cell? ⟨K + 1, 0, none⟩ = some (.int .i64 x0) := nw 0
  have n1 : W1.cell? ⟨K + 1, 1, none⟩ = some (.int .i64 x1) := nw 1
  have n2 : W1.cell? ⟨K + 1, 2, none⟩ = some (.int .i64 x2) := nw 2
  have n3 : W1.cell? ⟨K + 1, 3, none⟩ = some (.string x3) := nw 3
  have n4 : W1.cell? ⟨K + 1, 4, none⟩ = some (.int .i64 x4) := nw 4
  have n5 : W1.cell? ⟨K + 1, 5, none⟩ = some (.int .i64 x5) := nw 5
  have n6 : W1.cell? ⟨K + 1, 6, none⟩ = some (.bool x6) := nw 6
  have n7 : W1.cell? ⟨K + 1, 7, none⟩ = some (.bool x7) := nw 7
  clear nw
  go_enter Tryz.func52, Tryz.ntmps52
  go_wp2_with fail
  go_at_call 18
  refine (ST.out _).mono ?_
  rintro e w2 ⟨rfl, b2⟩
  have m2 : w2.cell? ⟨K + 1, 2, none⟩ = some (.int .i64 x2) := cell_later b2 n2
  have mr : w2.cell? ⟨K, 2, none⟩ = some (.int .i64 oth) := cell_later b2 cr
  have B2 := hid (B1.out.trans (b2.mono B1.out.size))
  clear b2 n0 n1 n2 n3 n4 n5 n6 n7 cr z1 hW1
  cases t with
  | true =>
    go_wp2_with fail
    go_ret
    exact ⟨by simp [barsB, HT.out], B2.out⟩
  | false =>
    go_wp2_with fail
    go_ret
    exact ⟨by simp [barsB, HT.out], B2.out⟩
set_option maxHeartbeats 8000000 in
set_option maxRecDepth 100000 in
theorem wantsIdx_is (ao : Option Addr) (m cp : Nat) (f : Nat → MW) (c want oth : Int) (w : World) (hl : Lw w ao m f) (hm : m ≤ 1000) :
    Calls Tryz.prog 35 #[.slice ao m cp, .func (.func 51) #[.agg #[.int .i64 c, .int .i64 want, .int .i64 oth]] #[]] w fun e w' => (∃ r : Int, e = .returned (.int .i64 r) ∧ ((∃ k, k < m ∧ r = k ∧ wantB want (f k).lab = true ∧ ∀ j, j < k → wantB want (f j).lab = false) ∨ (r = -1 ∧ ∀ j, j < m → wantB want (f j).lab = false))) ∧ Below w.heap.size w w' := by
  have H := hid hl
  have hmi : (m : Int) ≤ 1000 := by omega
  have B0 := hid (Below.refl w.heap.size w)
  clear hl
  go_enter Tryz.func35, Tryz.ntmps35
  go_wp2_with fail
  go_loopg [5, 8] m (fun gg _ i wr => ∃ k : Nat, k ≤ m ∧ m - k ≤ gg ∧ i = .int .i64 k ∧ Aside (∀ j, j < k → wantB want (f j).lab = false) ∧ Aside (Below w.heap.size w wr))
  case atStart => exact ⟨0, Nat.zero_le _, by omega, rfl, fun j hj => by omega, B0.out⟩
  case round =>
    clear B0
    obtain ⟨k, hk, hg, rfl, NX, BX⟩ := hrel
    by_cases hlt : k < m
    · have hlti : (k : Int) < m := by omega
      have hk0 : (0 : Int) ≤ k := by omega
      obtain ⟨b, o, rfl, hb, k0, k1, k2, k3, k4, k5, k6, k7⟩ := (H.out.later BX.out).eight k hlt
      obtain ⟨⟨x0, x1, x2, x3, x4, x5, x6, x7⟩, hx⟩ : ∃ x, f k = x := ⟨_, rfl⟩
      rw [hx] at k0 k1 k2 k3 k4 k5 k6 k7
      have HX := hid hx
      clear hx
      have ST := hid (wants_at c want oth x0 x1 x2 x3 x4 x5 x6 x7 wr)
      obtain ⟨t, ht⟩ : ∃ t, wantB want x2 = t := ⟨_, rfl⟩
      rw [ht] at ST
      have EV : Hid (wantB want (f k).lab = t) := by
        rw [HX.out]
        exact ht
      clear ht
      cases t with
      | true =>
        go_wp2_with fail
        go_at_call 51
        refine ST.out.mono ?_
        rintro e w' ⟨rfl, b1⟩
        have B1 := hid (BX.out.trans (b1.mono BX.out.size))
        clear b1 k0 k1 k2 k3 k4 k5 k6 k7
        go_wp2_with fail
        go_ret
        exact ⟨⟨_, rfl, .inl ⟨k, hlt, rfl, EV.out, NX.out⟩⟩, B1.out⟩
      | false =>
        have EX : Hid (∀ j, j < k + 1 → wantB want (f j).lab = false) := fun j hj => by
          by_cases e : j = k
          · subst e
            exact EV.out
          · exact NX.out j (by omega)
        clear NX EV
        go_wp2_with fail
        go_at_call 51
        refine ST.out.mono ?_
        rintro e w' ⟨rfl, b1⟩
        have B1 := hid (BX.out.trans (b1.mono BX.out.size))
        clear b1 k0 k1 k2 k3 k4 k5 k6 k7
        go_wp2_with fail
        go_roundg (m - (k + 1))
        case measure => omega
        case rel => exact ⟨k + 1, by omega, by omega, by go_num, EX.out, B1.out⟩
    · have hlti : ¬ (k : Int) < m := by omega
      have EX : Hid (∀ j, j < m → wantB want (f j).lab = false) := fun j hj => NX.out j (by omega)
      clear NX
      go_wp2_with fail
      go_ret
      exact ⟨⟨_, rfl, .inr ⟨rfl, EX.out⟩⟩, BX.out⟩
set_option maxHeartbeats 8000000 in
set_option maxRecDepth 100000 in
theorem barsIdx_is (ao : Option Addr) (m cp : Nat) (f : Nat → MW) (c want oth : Int) (w : World) (hl : Lw w ao m f) (hm : m ≤ 1000) :
    Calls Tryz.prog 35 #[.slice ao m cp, .func (.func 52) #[.agg #[.int .i64 c, .int .i64 want, .int .i64 oth]] #[]] w fun e w' => (∃ r : Int, e = .returned (.int .i64 r) ∧ ((∃ k, k < m ∧ r = k ∧ barsB oth (f k).lab = true ∧ ∀ j, j < k → barsB oth (f j).lab = false) ∨ (r = -1 ∧ ∀ j, j < m → barsB oth (f j).lab = false))) ∧ Below w.heap.size w w' := by
  have H := hid hl
  have hmi : (m : Int) ≤ 1000 := by omega
  have B0 := hid (Below.refl w.heap.size w)
  clear hl
  go_enter Tryz.func35, Tryz.ntmps35
  go_wp2_with fail
  go_loopg [5, 8] m (fun gg _ i wr => ∃ k : Nat, k ≤ m ∧ m - k ≤ gg ∧ i = .int .i64 k ∧ Aside (∀ j, j < k → barsB oth (f j).lab = false) ∧ Aside (Below w.heap.size w wr))
  case atStart => exact ⟨0, Nat.zero_le _, by omega, rfl, fun j hj => by omega, B0.out⟩
  case round =>
    clear B0
    obtain ⟨k, hk, hg, rfl, NX, BX⟩ := hrel
    by_cases hlt : k < m
    · have hlti : (k : Int) < m := by omega
      have hk0 : (0 : Int) ≤ k := by omega
      obtain ⟨b, o, rfl, hb, k0, k1, k2, k3, k4, k5, k6, k7⟩ := (H.out.later BX.out).eight k hlt
      obtain ⟨⟨x0, x1, x2, x3, x4, x5, x6, x7⟩, hx⟩ : ∃ x, f k = x := ⟨_, rfl⟩
      rw [hx] at k0 k1 k2 k3 k4 k5 k6 k7
      have HX := hid hx
      clear hx
      have ST := hid (bars_at c want oth x0 x1 x2 x3 x4 x5 x6 x7 wr)
      obtain ⟨t, ht⟩ : ∃ t, barsB oth x2 = t := ⟨_, rfl⟩
      rw [ht] at ST
      have EV : Hid (barsB oth (f k).lab = t) := by
        rw [HX.out]
        exact ht
      clear ht
      cases t with
      | true =>
        go_wp2_with fail
        go_at_call 52
        refine ST.out.mono ?_
        rintro e w' ⟨rfl, b1⟩
        have B1 := hid (BX.out.trans (b1.mono BX.out.size))
        clear b1 k0 k1 k2 k3 k4 k5 k6 k7
        go_wp2_with fail
        go_ret
        exact ⟨⟨_, rfl, .inl ⟨k, hlt, rfl, EV.out, NX.out⟩⟩, B1.out⟩
      | false =>
        have EX : Hid (∀ j, j < k + 1 → barsB oth (f j).lab = false) := fun j hj => by
          by_cases e : j = k
          · subst e
            exact EV.out
          · exact NX.out j (by omega)
        clear NX EV
        go_wp2_with fail
        go_at_call 52
        refine ST.out.mono ?_
        rintro e w' ⟨rfl, b1⟩
        have B1 := hid (BX.out.trans (b1.mono BX.out.size))
        clear b1 k0 k1 k2 k3 k4 k5 k6 k7
        go_wp2_with fail
        go_roundg (m - (k + 1))
        case measure => omega
        case rel => exact ⟨k + 1, by omega, by omega, by go_num, EX.out, B1.out⟩
    · have hlti : ¬ (k : Int) < m := by omega
      have EX : Hid (∀ j, j < m → barsB oth (f j).lab = false) := fun j hj => NX.out j (by omega)
      clear NX
      go_wp2_with fail
      go_ret
      exact ⟨⟨_, rfl, .inr ⟨rfl, EX.out⟩⟩, BX.out⟩
/-- Whether one of the first m may not be one of the others. -/
def anyB (f : Nat → MW) (m : Nat) (oth : Int) : Bool := (List.range m).any fun j => barsB oth (f j).lab
theorem anyB_iff (f : Nat → MW) (m : Nat) (oth : Int) : anyB f m oth = true ↔ ∃ j, j < m ∧ barsB oth (f j).lab = true := by
  unfold anyB
  rw [List.any_eq_true]
  constructor
  · rintro ⟨j, hj, h⟩; exact ⟨j, List.mem_range.1 hj, h⟩
  · rintro ⟨j, hj, h⟩; exact ⟨j, List.mem_range.2 hj, h⟩
set_option maxHeartbeats 4000000 in
theorem barsCont_is (ao : Option Addr) (m cp : Nat) (f : Nat → MW) (c want oth : Int) (w : World) (hl : Lw w ao m f) (hm : m ≤ 1000) :
    Calls Tryz.prog 17 #[.slice ao m cp, .func (.func 52) #[.agg #[.int .i64 c, .int .i64 want, .int .i64 oth]] #[]] w fun e w' => e = .returned (.bool (anyB f m oth)) ∧ Below w.heap.size w w' := by
  have IX := hid (barsIdx_is ao m cp f c want oth w hl hm)
  clear hl
  go_enter Tryz.func17, Tryz.ntmps17
  go_wp2_with fail
  go_at_call 35
  refine IX.out.mono ?_
  rintro e w' ⟨⟨r, rfl, hr⟩, b1⟩
  have HR : Hid (decide (0 ≤ r) = anyB f m oth) := by
    show _ = _
    rw [Bool.eq_iff_iff, decide_eq_true_eq, anyB_iff]
    rcases hr with ⟨k, hk, rfl, h1, _⟩ | ⟨rfl, h1⟩
    · exact ⟨fun _ => ⟨k, hk, h1⟩, fun _ => by omega⟩
    · exact ⟨fun h => by omega, fun ⟨j, hj, h2⟩ => by rw [h1 j hj] at h2; cases h2⟩
  have B1 := hid b1
  clear hr b1 IX
  go_wp2_with fail
  refine bodyPost_ret (v := .bool (decide (0 ≤ r))) (by simp [results, Tryz.results17, go_sem]) rfl ⟨by rw [HR.out], B1.out⟩
end Go.Proofs.YtdihbeffomibeaaGreatDoor
namespace Go.Proofs.YtdihbeffomibeaaGreatDoor
set_option linter.unusedVariables false
set_option linter.unusedSimpArgs false
open Go.RowKit Go.Lib Go.Maps

/-- Whether dependencies have the labels of the class. -/
def FitsM (f : Nat → MW) (m : Nat) (want oth : Int) : Prop := ∃ k, k < m ∧ wantB want (f k).lab = true ∧ (∀ j, j < k → wantB want (f j).lab = false) ∧ ∀ j, j < m → j ≠ k → barsB oth (f j).lab = false
theorem Lw.shift {w : World} {b o m : Nat} {f : Nat → MW} (h : Lw w (some ⟨b, o, none⟩) m f) (k : Nat) : Lw w (some ⟨b, o + k * 8, none⟩) (m - k) (fun j => f (j + k)) := fun j hj => by
  obtain ⟨b', o', e, hb, hc⟩ := h (j + k) (by omega)
  injection e with e
  injection e with e1 e2
  subst e1 e2
  refine ⟨b, o + k * 8, rfl, hb, fun i u hi => ?_⟩
  have := hc i u hi
  rwa [show o + (j + k) * 8 + i = o + k * 8 + j * 8 + i from by omega] at this
theorem Lw.none0 {w : World} {ao : Option Addr} {f : Nat → MW} : Lw w ao 0 f := fun j hj => by omega

set_option maxHeartbeats 8000000 in
set_option maxRecDepth 100000 in
theorem fits_is (ao : Option Addr) (m cp : Nat) (f : Nat → MW) (c want oth : Int) (w : World) (hl : Lw w ao m f) (hm : m ≤ 1000) (hmc : m ≤ cp) (hcm : (cp : Int) ≤ 9223372036854775807) :
    Calls Tryz.prog 34 #[.agg #[.int .i64 c, .int .i64 want, .int .i64 oth], .slice ao m cp] w fun e w' => (∃ t : Bool, e = .returned (.bool t) ∧ (t = true ↔ FitsM f m want oth)) ∧ Below w.heap.size w w' := by
  obtain ⟨W1, hW1⟩ : ∃ W1, w.alloc (.cells #[.int .i64 c, .int .i64 want, .int .i64 oth] 43) = W1 := ⟨_, rfl⟩
  obtain ⟨K, hK⟩ : ∃ K, w.heap.size = K := ⟨_, rfl⟩
  have B1 : Hid (Below w.heap.size w W1) := by rw [← hW1]; exact below_box w _
  have z1 : K < W1.heap.size := by rw [← hW1, ← hK]; simp
  have nw := fun i => new_cells w #[.int .i64 c, .int .i64 want, .int .i64 oth] 43 i
  rw [hW1, hK] at nw
  have n0 : W1.cell? ⟨K, 0, none⟩ = some (.int .i64 c) := nw 0
  have n1 : W1.cell? ⟨K, 1, none⟩ = some (.int .i64 want) := nw 1
  have n2 : W1.cell? ⟨K, 2, none⟩ = some (.int .i64 oth) := nw 2
  have HL := hid hl
  have IX := hid (wantsIdx_is ao m cp f c want oth W1 (hl.later B1.out) hm)
  clear nw hl
  go_enter Tryz.func34, Tryz.ntmps34
  go_wp2_with fail
  go_at_call 35
  refine IX.out.mono ?_
  rintro e w2 ⟨⟨r, rfl, hr⟩, b2⟩
  have m0 : w2.cell? ⟨K, 0, none⟩ = some (.int .i64 c) := cell_later b2 n0
  have m1 : w2.cell? ⟨K, 1, none⟩ = some (.int .i64 want) := cell_later b2 n1
  have m2 : w2.cell? ⟨K, 2, none⟩ = some (.int .i64 oth) := cell_later b2 n2
  have B2 := hid (B1.out.trans (b2.mono B1.out.size))
  clear b2 n0 n1 n2 z1 hW1 hK B1 IX
  rcases hr with ⟨k, hk, rfl, hk1, hk2⟩ | ⟨rfl, hno⟩
  · obtain ⟨b, o, hao, _⟩ := (HL.out).eight k hk
    subst hao
    obtain ⟨a1, ha1⟩ : ∃ a1, anyB f k oth = a1 := ⟨_, rfl⟩
    obtain ⟨a2, ha2⟩ : ∃ a2, anyB (fun j => f (j + (k + 1))) (m - (k + 1)) oth = a2 := ⟨_, rfl⟩
    have FM : Hid ((!a1 && !a2) = true ↔ FitsM f m want oth) := by
      show _ ↔ _
      rw [Bool.and_eq_true, Bool.not_eq_true', Bool.not_eq_true', ← ha1, ← ha2, ← Bool.not_eq_true, ← Bool.not_eq_true, anyB_iff, anyB_iff]
      constructor
      · rintro ⟨h1, h2⟩
        refine ⟨k, hk, hk1, hk2, fun j hj hne => ?_⟩
        cases hb : barsB oth (f j).lab with
        | false => rfl
        | true =>
          exfalso
          by_cases hjk : j < k
          · exact h1 ⟨j, hjk, hb⟩
          · exact h2 ⟨j - (k + 1), by omega, by rw [show j - (k + 1) + (k + 1) = j from by omega]; exact hb⟩
      · rintro ⟨k', hk', g1, g2, g3⟩
        obtain rfl : k = k' := by
          rcases Nat.lt_trichotomy k k' with h | h | h
          · rw [g2 k h] at hk1; cases hk1
          · exact h
          · rw [hk2 k' h] at g1; cases g1
        exact ⟨fun ⟨j, hj, h⟩ => absurd h (by rw [g3 j (by omega) (by omega)]; decide), fun ⟨j, hj, h⟩ => absurd h (by rw [g3 _ (by omega) (by omega)]; decide)⟩
    have L2 := hid (HL.out.later B2.out)
    have C1 : Hid (∀ p : BW w2, Calls Tryz.prog 17 #[.slice (some ⟨b, o, none⟩) k cp, .func (.func 52) #[.agg #[.int .i64 c, .int .i64 want, .int .i64 oth]] #[]] p.val fun e w'' => e = .returned (.bool a1) ∧ ∃ p' : BW w2, w'' = p'.val) := fun p =>
      (barsCont_is _ k cp f c want oth p.val (Lw.later (fun j hj => L2.out j (by omega)) p.2) (by omega)).mono fun e w'' ⟨h1, h2⟩ => ⟨by rw [h1, ha1], ⟨w'', bstep h2 p.2⟩, rfl⟩
    have C2 : Hid (∀ (A : Option Addr) (cc : Nat) (hA : Lw w2 A (m - (k + 1)) (fun j => f (j + (k + 1)))) (p : BW w2), Calls Tryz.prog 17 #[.slice A (m - (k + 1)) cc, .func (.func 52) #[.agg #[.int .i64 c, .int .i64 want, .int .i64 oth]] #[]] p.val fun e w'' => e = .returned (.bool a2) ∧ ∃ p' : BW w2, w'' = p'.val) := fun A cc hA p =>
      (barsCont_is A (m - (k + 1)) cc (fun j => f (j + (k + 1))) c want oth p.val (hA.later p.2) (by omega)).mono fun e w'' ⟨h1, h2⟩ => ⟨by rw [h1, ha2], ⟨w'', bstep h2 p.2⟩, rfl⟩
    have hki : (k : Int) < m := by omega
    have hk0 : (0 : Int) ≤ k := by omega
    have hkc : (k : Int) ≤ cp := by omega
    have hk1c : (k : Int) + 1 ≤ m := by omega
    have hk1c2 : (k : Int) + 1 ≤ cp := by omega
    have hmi : (m : Int) ≤ 1000 := by omega
    have hmcp : (m : Int) ≤ cp := by omega
    have hge : decide ((k : Int) ≥ 0) = true := by simp
    have v0 := bcell m0
    have v1 := bcell m1
    have v2 := bcell m2
    have bwS : Nonempty (BW w2) := bwSome w2
    clear hk1 hk2 ha1 ha2 HL m0 m1 m2
    cases a1 with
    | true =>
      go_upto_region 2 with fail
      refine wp_region_quiet_below Tryz.mixedOrders (by kernel_rfl) ?_
      repeat (go_big_quiet_step ((go_at_call 17; exact C1.out _)))
      refine wpQuiet_nil ?_
      intro w7 hw7
      obtain ⟨⟨V7, hb7⟩, hw8⟩ := hw7
      have hw9 : w7 = V7 := hw8
      subst hw9
      have B7 := hid (bstep hb7 B2.out)
      clear hw8 v0 v1 v2 C1 C2 bwS hb7
      go_wp2_with fail
      go_ret
      exact ⟨⟨_, rfl, FM.out⟩, B7.out⟩
    | false =>
      by_cases hcp : k + 1 = cp
      · have hcpi : (k : Int) + 1 = cp := by omega
        have hm0 : m - (k + 1) = 0 := by omega
        have C3 : Hid (∀ p : BW w2, Calls Tryz.prog 17 #[.slice (some ⟨b, o, none⟩) 0 0, .func (.func 52) #[.agg #[.int .i64 c, .int .i64 want, .int .i64 oth]] #[]] p.val fun e w'' => e = .returned (.bool a2) ∧ ∃ p' : BW w2, w'' = p'.val) := by
          have q := C2.out (some ⟨b, o, none⟩) 0 (by rw [hm0]; exact Lw.none0)
          rw [hm0] at q
          exact q
        clear hm0
        go_upto_region 2 with fail
        refine wp_region_quiet_below Tryz.mixedOrders (by kernel_rfl) ?_
        repeat (go_big_quiet_step (fail))
        go_big_quiet_step ((go_at_call 17; exact C1.out _))
        repeat (go_big_quiet_step (fail))
        go_big_quiet_step ((go_at_call 17; exact C3.out _))
        repeat (go_big_quiet_step (fail))
        refine wpQuiet_nil ?_
        intro w7 hw7
        obtain ⟨⟨V7, hb7⟩, hw8⟩ := hw7
        have hw9 : w7 = V7 := hw8
        subst hw9
        have B7 := hid (bstep hb7 B2.out)
        clear hw8 v0 v1 v2 C1 C2 C3 bwS hb7
        cases a2
        · go_wp2_with fail
          go_ret
          exact ⟨⟨_, rfl, FM.out⟩, B7.out⟩
        · go_wp2_with fail
          go_ret
          exact ⟨⟨_, rfl, FM.out⟩, B7.out⟩
      · have C3 := hid (C2.out (some ⟨b, o + (k + 1) * 8, none⟩) (cp - (k + 1)) (L2.out.shift (k + 1)))
        go_upto_region 2 with fail
        refine wp_region_quiet_below Tryz.mixedOrders (by kernel_rfl) ?_
        repeat (go_big_quiet_step (fail))
        go_big_quiet_step ((go_at_call 17; exact C1.out _))
        repeat (go_big_quiet_step (fail))
        go_big_quiet_step ((go_at_call 17; exact C3.out _))
        repeat (go_big_quiet_step (fail))
        refine wpQuiet_nil ?_
        intro w7 hw7
        obtain ⟨⟨V7, hb7⟩, hw8⟩ := hw7
        have hw9 : w7 = V7 := hw8
        subst hw9
        have B7 := hid (bstep hb7 B2.out)
        clear hw8 v0 v1 v2 C1 C2 C3 bwS hb7
        cases a2
        · go_wp2_with fail
          go_ret
          exact ⟨⟨_, rfl, FM.out⟩, B7.out⟩
        · go_wp2_with fail
          go_ret
          exact ⟨⟨_, rfl, FM.out⟩, B7.out⟩
  · have NF : Hid (¬ FitsM f m want oth) := fun ⟨k, hk, h1, _⟩ => by rw [hno k hk] at h1; cases h1
    clear hno
    have NF2 : Hid ((false = true) ↔ FitsM f m want oth) := ⟨fun h => absurd h (by decide), fun h => absurd h NF.out⟩
    go_upto_region 2 with fail
    have bwS : Nonempty (BW w2) := bwSome w2
    refine wp_region_quiet_below Tryz.mixedOrders (by kernel_rfl) ?_
    repeat (go_big_quiet_step (fail))
    refine wpQuiet_nil ?_
    intro w7 hw7
    obtain ⟨⟨V7, hb7⟩, hw8⟩ := hw7
    have hw9 : w7 = V7 := hw8
    subst hw9
    have B7 := hid (bstep hb7 B2.out)
    clear hw8 bwS hb7
    go_wp2_with fail
    go_ret
    exact ⟨⟨_, rfl, NF2.out⟩, B7.out⟩
end Go.Proofs.YtdihbeffomibeaaGreatDoor
namespace Go.Proofs.YtdihbeffomibeaaGreatDoor
set_option linter.unusedVariables false
set_option linter.unusedSimpArgs false
open Go.RowKit Go.Lib Go.Maps

/-- Whether dependencies lead round, through no node twice. -/
def RingM (f : Nat → MW) (m : Nat) : Prop := (∀ i, i < m → (f i).dst = (f ((i + 1) % m)).src) ∧ (∀ i j, i < j → j < m → (f i).src ≠ (f j).src) ∧ 1 < m
/-- Whether one of the first k leads from a node. -/
def seenB (f : Nat → MW) (k : Nat) (s : Int) : Bool := (List.range k).any fun i => (f i).src == s
theorem seenB_iff (f : Nat → MW) (k : Nat) (s : Int) : seenB f k s = true ↔ ∃ i, i < k ∧ (f i).src = s := by
  unfold seenB
  rw [List.any_eq_true]
  constructor
  · rintro ⟨j, hj, h⟩; exact ⟨j, List.mem_range.1 hj, by simpa using h⟩
  · rintro ⟨j, hj, h⟩; exact ⟨j, List.mem_range.2 hj, by simpa using h⟩
theorem seenB_succ (f : Nat → MW) (k : Nat) (s : Int) : seenB f (k + 1) s = (seenB f k s || ((f k).src == s)) := by
  unfold seenB
  rw [List.range_succ, List.any_append]
  simp
theorem wf_nat (n : Nat) (h : n < 1000000) : (Lit.int .i64 (n : Int)).wf = true := by
  have a : IntKind.i64.min = -9223372036854775808 := by decide
  have b : IntKind.i64.max = 9223372036854775807 := by decide
  simp [Lit.wf, a, b]
  omega
theorem key3 (p : Nat) (hp : p < 1000000) : keyOf Tryz.prog 3 (.int .i64 (p : Int)) = some (.int .i64 (p : Int)) := keyOf_int_mk Tryz.underlying3 (wf_nat p hp)
theorem zero87 (w : World) : (zeroValue 87).run Tryz.prog w = .ok (.agg #[]) w := by kernel_rfl
/-- The map of the nodes met. -/
def SeenV (w : World) (mb k : Nat) (f : Nat → MW) : Prop := ∃ fv, MapV w Tryz.prog 3 mb k fv ∧ ∀ s : Nat, s < 1000000 → fv (.int .i64 (s : Int)) = if seenB f k s then some (.agg #[]) else none

/-- What isRing hands back. -/
def RingPost (f : Nat → MW) (m : Nat) (w : World) (e : Ending) (w' : World) : Prop := (∃ t : Bool, e = .returned (.bool t) ∧ (t = true ↔ RingM f m)) ∧ Below w.heap.size w w'
set_option maxHeartbeats 8000000 in
set_option maxRecDepth 100000 in
theorem isRing_is (ao : Option Addr) (m cp : Nat) (f : Nat → MW) (w : World) (hl : Lw w ao m f) (hm : m ≤ 1000) (hs : ∀ i, i < m → ∃ s : Nat, (f i).src = s ∧ s < 1000000) :
    Calls Tryz.prog 33 #[.slice ao m cp] w fun e w' => RingPost f m w e w' := by
  have HL := hid hl
  have HS := hid hs
  have hmi : (m : Int) ≤ 1000 := by omega
  obtain ⟨mb, hmb⟩ : ∃ mb, w.heap.size = mb := ⟨_, rfl⟩
  have S0 : Hid (SeenV (w.alloc (.map #[] 0)) mb 0 f) := by
    rw [← hmb]
    exact ⟨_, MapV.made w _ _, fun s hs => by simp [seenB]⟩
  have B0 : Hid (Below mb w (w.alloc (.map #[] 0))) := by rw [← hmb]; exact below_box w _
  clear hl hs
  have hmm := @run_makeMap Tryz.prog
  go_enter Tryz.func33, Tryz.ntmps33
  go_wp2_with fail
  clear hmm
  have HMB := hid hmb
  clear hmb
  go_loopg [4, 5, 6, 7, 11] m (fun gg _ _ _ _ i wr => ∃ k : Nat, k ≤ m ∧ m - k ≤ gg ∧ i = .int .i64 k ∧ Aside (∀ i, i < k → (f i).dst = (f ((i + 1) % m)).src) ∧ Aside (∀ i j, i < j → j < k → (f i).src ≠ (f j).src) ∧ Aside (SeenV wr mb k f) ∧ Aside (Below mb w wr))
  case atStart => exact ⟨0, Nat.zero_le _, by omega, rfl, fun i hi => by omega, fun i j h1 h2 => by omega, S0.out, B0.out⟩
  case round =>
    clear S0 B0
    obtain ⟨k, hk, hg, rfl, DX, NX, SX, BX⟩ := hrel
    by_cases hlt : k < m
    · have hlti : (k : Int) < m := by omega
      have hk0 : (0 : Int) ≤ k := by omega
      have hbx := BX.out
      rw [← HMB.out] at hbx
      have LX := hid (HL.out.later hbx)
      obtain ⟨b, o, rfl, hb, k0, k1, k2, k3, k4, k5, k6, k7⟩ := LX.out.eight k hlt
      obtain ⟨⟨x0, x1, x2, x3, x4, x5, x6, x7⟩, hx⟩ : ∃ x, f k = x := ⟨_, rfl⟩
      rw [hx] at k0 k1 k2 k3 k4 k5 k6 k7
      obtain ⟨s, hxs, hsl⟩ := HS.out k hlt
      rw [hx] at hxs
      simp only [MW.src] at hxs
      subst hxs
      have HX := hid hx
      clear hx hbx
      have hmod : k + 1 < m ∨ k + 1 = m := by omega
      have hml : (k + 1) % m < m := Nat.mod_lt _ (by omega)
      obtain ⟨j, hj⟩ : ∃ j, (k + 1) % m = j := ⟨_, rfl⟩
      rw [hj] at hml
      have htm : ((k : Int) + 1).tmod (m : Int) = (j : Int) := by
        rw [← hj]
        exact_mod_cast Int.ofNat_tmod (k + 1) m
      obtain ⟨b', o', hbo, _, j0, _⟩ := LX.out.eight j hml
      injection hbo with hbo
      injection hbo with q1 q2
      subst q1 q2
      obtain ⟨y0, hy0⟩ : ∃ y0, (f j).src = y0 := ⟨_, rfl⟩
      rw [hy0] at j0
      have HJ := hid hj
      have HY := hid hy0
      clear hj hy0
      obtain ⟨fv, hmap, hfv⟩ := SX.out
      obtain ⟨t, ht⟩ : ∃ t, seenB f k s = t := ⟨_, rfl⟩
      have hft := hfv s hsl
      rw [ht] at hft
      obtain ⟨W1, hW1⟩ : ∃ W1, wr.alloc (.cells #[.int .i64 (s : Nat), .int .i64 x1, .int .i64 x2, .string x3, .int .i64 x4, .int .i64 x5, .bool x6, .bool x7] 25) = W1 := ⟨_, rfl⟩
      obtain ⟨K, hK⟩ : ∃ K, wr.heap.size = K := ⟨_, rfl⟩
      have b1 : Below wr.heap.size wr W1 := by rw [← hW1]; exact below_box wr _
      have n0 : W1.cell? ⟨K, 0, none⟩ = some (.int .i64 (s : Nat)) := by rw [← hW1, ← hK]; exact new_cells wr _ _ 0
      have n1 : W1.cell? ⟨K, 1, none⟩ = some (.int .i64 x1) := by rw [← hW1, ← hK]; exact new_cells wr _ _ 1
      have nz : K < W1.heap.size := by rw [← hW1, ← hK]; simp
      have hm1 := hmap.same (b1.block mb hmap.lt)
      have hlk : (Instr.lookup 86 (.map (some mb)) (.int .i64 (s : Int)) true).run Tryz.prog W1 = .ok (.tuple #[.agg #[], .bool t]) W1 := by
        have := hm1.look_ok (t := 86) (e := 87) keys3 Tryz.underlying86 (zero87 _) (key3 s hsl)
        rw [hft] at this
        cases t <;> simpa using this
      obtain ⟨W2, hW2⟩ : ∃ W2, W1.alloc (.cells #[] 87) = W2 := ⟨_, rfl⟩
      have b2 : Below wr.heap.size wr W2 := by rw [← hW2]; exact b1.trans ((below_box W1 _).mono b1.size)
      have c2 : ∀ {o v}, W1.cell? ⟨K, o, none⟩ = some v → W2.cell? ⟨K, o, none⟩ = some v := fun {o v} e => by
        rw [← hW2]
        exact ((below_box W1 _).cell (p := ⟨K, o, none⟩) nz).trans e
      have d0 : W2.cell? ⟨K, 0, none⟩ = some (.int .i64 (s : Nat)) := c2 n0
      have d1 : W2.cell? ⟨K, 1, none⟩ = some (.int .i64 x1) := c2 n1
      have dz : K < W2.heap.size := by rw [← hW2]; simp; omega
      have BN : Hid (Below mb w W2) := by
        have := BX.out
        exact this.trans (b2.mono (by have h1 := hmap.lt; omega))
      have p0 : W2.cell? ⟨b, o + j * 8, none⟩ = some (.int .i64 y0) := (b2.cell (p := ⟨b, o + j * 8, none⟩) hb).trans j0
      have hbz : b < W2.heap.size := Nat.lt_of_lt_of_le hb b2.size
      have hji : (j : Int) < m := by omega
      have hj0 : (0 : Int) ≤ j := by omega
      have hm0 : ¬ (m : Int) = 0 := by omega
      have hmz : ((m : Int) == 0) = false := by simp; omega
      have HM2 := hid (hmap.same (b2.block mb hmap.lt))
      have HFV := hid hfv
      have HT := hid ht
      clear hm1 hfv ht hft hmap b1 b2 SX BX n1 c2 j0
      cases t with
      | true =>
        have NR : Hid ((false = true) ↔ RingM f m) := ⟨fun h => absurd h (by decide), fun h => by
          obtain ⟨i, hi, e⟩ := (seenB_iff f k s).1 HT.out
          exact absurd (by rw [e, HX.out]) (h.2.1 i k hi hlt)⟩
        clear HT HFV HM2
        go_wp2_with fail
        go_quiet (fail)
        go_wp2_with fail
        go_ret
        exact ⟨⟨_, rfl, NR.out⟩, by rw [HMB.out]; exact below_drewN BN.out _⟩
      | false =>
        by_cases hxy : x1 = y0
        · have he1 : (x1 != y0) = false := by simp [hxy]
          have he2 : (x1 == y0) = true := by simp [hxy]
          have DN : Hid (∀ i, i < k + 1 → (f i).dst = (f ((i + 1) % m)).src) := fun i hi => by
            by_cases e : i = k
            · subst e
              rw [HX.out, HJ.out, HY.out]
              exact hxy
            · exact DX.out i (by omega)
          have NN : Hid (∀ i i', i < i' → i' < k + 1 → (f i).src ≠ (f i').src) := fun i i' h1 h2 => by
            by_cases e : i' = k
            · subst e
              intro hc
              have : seenB f i' s = true := (seenB_iff f i' s).2 ⟨i, h1, by rw [hc, HX.out]⟩
              rw [HT.out] at this
              cases this
            · exact NX.out i i' h1 (by omega)
          have FV2 : Hid (∀ g, IsPut fv (.int .i64 (s : Int)) (.agg #[]) g → ∀ s' : Nat, s' < 1000000 → g (.int .i64 (s' : Int)) = if seenB f (k + 1) s' then some (.agg #[]) else none) := fun g hp s' hs' => by
            have e0 : (f k).src = (s : Int) := by rw [HX.out]
            rw [seenB_succ, e0]
            by_cases e : s' = s
            · subst e
              rw [hp.1]
              simp
            · rw [hp.2 _ (fun c => e (by injection c with _ c; omega)), HFV.out s' hs']
              have : ((s : Int) == (s' : Int)) = false := by simp; omega
              rw [this, Bool.or_false]
          have KS := hid (key3 s hsl)
          clear HT HFV DX NX hxy
          go_wp2_with fail
          go_quiet (fail)
          rename_i nq
          clear he1 he2 hlk p0 hbz hW1 hW2 n0 nz
          have HMD := hid (HM2.out.same (w' := W2.drewN nq) rfl)
          have BND := hid (below_drewN BN.out nq)
          have e0 : (W2.drewN nq).cell? ⟨K, 0, none⟩ = some (.int .i64 (s : Nat)) := d0
          have ez : K < (W2.drewN nq).heap.size := dz
          clear d0 d1 dz HM2 BN
          generalize W2.drewN nq = W3 at *
          go_wp2_with (refine wpList_mapV _ rfl _ _ _ 86 rfl 3 87 keys3 Tryz.underlying86 mb k fv rfl HMD.out ?qn (.int .i64 (s : Int)) (.agg #[]) _ rfl rfl KS.out ?_)
          case qn => unfold maxLen; omega
          intro w4 g hp hm4 hg4
          have S4 : Hid (SeenV w4 mb (k + 1) f) := ⟨g, hm4, FV2.out g hp⟩
          have B4 : Hid (Below mb w w4) := BND.out.trans ((gro_of_grown hg4).below mb (fun k' hk' => by have : mb = k' := Option.some.inj hk'; omega) (by have h1 := HMD.out.lt; omega))
          clear hp hm4 hg4 HMD BND FV2 e0 ez
          go_wp2_with fail
          go_roundg (m - (k + 1))
          case measure => omega
          case rel => exact ⟨k + 1, by omega, by omega, by go_num, DN.out, NN.out, S4.out, B4.out⟩
        · have he1 : (x1 != y0) = true := by simp [hxy]
          have he2 : (x1 == y0) = false := by simp [hxy]
          have NR : Hid ((false = true) ↔ RingM f m) := ⟨fun h => absurd h (by decide), fun h => by
            have q := h.1 k hlt
            rw [HX.out, HJ.out, HY.out] at q
            exact absurd q hxy⟩
          clear HT HFV HM2
          go_wp2_with fail
          go_quiet (fail)
          go_wp2_with fail
          go_ret
          exact ⟨⟨_, rfl, NR.out⟩, by rw [HMB.out]; exact below_drewN BN.out _⟩
    · have hlti : ¬ (k : Int) < m := by omega
      obtain rfl : m = k := by omega
      have RM : Hid (decide (1 < m) = true ↔ RingM f m) := by
        show _ ↔ _
        rw [decide_eq_true_eq]
        exact ⟨fun h => ⟨DX.out, NX.out, h⟩, fun h => h.2.2⟩
      clear DX NX SX
      by_cases h1 : 1 < m
      · have h1i : (m : Int) > 1 := by omega
        have RT : Hid (RingM f m) := RM.out.1 (decide_eq_true h1)
        clear RM
        go_wp2_with fail
        go_ret
        exact ⟨⟨true, rfl, ⟨fun _ => RT.out, fun _ => rfl⟩⟩, by rw [HMB.out]; exact BX.out⟩
      · have h1i : ¬ (m : Int) > 1 := by omega
        have RT : Hid (¬ RingM f m) := fun h => by have := RM.out.2 h; rw [decide_eq_false h1] at this; cases this
        clear RM
        go_wp2_with fail
        go_ret
        exact ⟨⟨false, rfl, ⟨fun h => absurd h (by decide), fun h => absurd h RT.out⟩⟩, by rw [HMB.out]; exact BX.out⟩
/-- Whether dependencies are a cycle of a class. -/
def IsM (f : Nat → MW) (m : Nat) (c : Int) (real : Bool) : Prop := isCl c ∧ RingM f m ∧ FitsM f m (wantN c : Nat) (othN c real : Nat)
/-- What Is hands back. -/
def IsPost (f : Nat → MW) (m : Nat) (c : Int) (real : Bool) (w : World) (e : Ending) (w' : World) : Prop := (∃ t : Bool, e = .returned (.bool t) ∧ (t = true ↔ IsM f m c real)) ∧ Below w.heap.size w w'
theorem IsPost.no {f : Nat → MW} {m : Nat} {c : Int} {real : Bool} {w w' : World} (h : ¬ IsM f m c real) (hb : Below w.heap.size w w') : IsPost f m c real w (.returned (.bool false)) w' := ⟨⟨false, rfl, ⟨fun h => absurd h (by decide), fun g => absurd g h⟩⟩, hb⟩

set_option maxHeartbeats 8000000 in
set_option maxRecDepth 100000 in
theorem cis_is (ao : Option Addr) (m cp : Nat) (f : Nat → MW) (c : Int) (real : Bool) (w : World) (hl : Lw w ao m f) (hm : m ≤ 1000) (hmc : m ≤ cp) (hcm : (cp : Int) ≤ 9223372036854775807) (hs : ∀ i, i < m → ∃ s : Nat, (f i).src = s ∧ s < 1000000) (hC : Cls w) :
    Calls Tryz.prog 15 #[.slice ao m cp, .int .i64 c, .bool real] w fun e w' => IsPost f m c real w e w' := by
  have HL := hid hl
  have HS := hid hs
  have RO := hid (rowOf_is c real w hC)
  have HMC := hid hmc
  have HCM := hid hcm
  clear hl hs hC hmc hcm
  go_enter Tryz.func15, Tryz.ntmps15
  go_wp2_with fail
  go_at_call 16
  refine RO.out.mono ?_
  rintro e w1 ⟨⟨hcl, rfl⟩ | ⟨hcl, rfl⟩, b1⟩
  rotate_left
  · have B1 := hid b1
    have NI : Hid (¬ IsM f m c real) := fun h => hcl h.1
    clear b1 hcl RO
    go_wp2_with fail
    go_ret
    exact IsPost.no NI.out (B1.out.trans ((below_box w1 _).mono B1.out.size))
  · have B1 := hid b1
    have HCL := hid hcl
    clear b1 hcl RO
    obtain ⟨want, hwant⟩ : ∃ want, wantN c = want := ⟨_, rfl⟩
    obtain ⟨oth, hoth⟩ : ∃ oth, othN c real = oth := ⟨_, rfl⟩
    rw [hwant, hoth]
    have HW := hid hwant
    have HO := hid hoth
    clear hwant hoth
    obtain ⟨rb, hrb⟩ : ∃ rb, w1.heap.size = rb := ⟨_, rfl⟩
    obtain ⟨W2, hW2⟩ : ∃ W2, w1.alloc (.cells #[.int .i64 c, .int .i64 (want : Nat), .int .i64 (oth : Nat)] 43) = W2 := ⟨_, rfl⟩
    have B2 : Hid (Below w.heap.size w W2) := by
      rw [← hW2]
      exact B1.out.trans ((below_box w1 _).mono B1.out.size)
    have nz : rb < W2.heap.size := by rw [← hW2, ← hrb]; simp
    have nw := fun i => new_cells w1 #[.int .i64 c, .int .i64 (want : Nat), .int .i64 (oth : Nat)] 43 i
    rw [hW2, hrb] at nw
    have n0 : W2.cell? ⟨rb, 0, none⟩ = some (.int .i64 c) := nw 0
    have n1 : W2.cell? ⟨rb, 1, none⟩ = some (.int .i64 (want : Nat)) := nw 1
    have n2 : W2.cell? ⟨rb, 2, none⟩ = some (.int .i64 (oth : Nat)) := nw 2
    have RG := hid (isRing_is ao m cp f W2 (HL.out.later B2.out) hm HS.out)
    clear nw B1
    go_wp2_with fail
    go_at_call 33
    refine RG.out.mono ?_
    rintro e w3 ⟨⟨t, rfl, ht⟩, b3⟩
    have d0 := cell_later b3 n0
    have d1 := cell_later b3 n1
    have d2 := cell_later b3 n2
    have dz : rb < w3.heap.size := Nat.lt_of_lt_of_le nz b3.size
    have B3 := hid (B2.out.trans (b3.mono B2.out.size))
    have HT := hid ht
    clear b3 ht RG n0 n1 n2 nz hW2 hrb B2
    cases t with
    | false =>
      have NI : Hid (¬ IsM f m c real) := fun h => absurd (HT.out.2 h.2.1) (by decide)
      clear HT
      go_wp2_with fail
      go_ret
      exact IsPost.no NI.out B3.out
    | true =>
      have RI : Hid (RingM f m) := HT.out.1 rfl
      have FI := hid (fits_is ao m cp f c (want : Nat) (oth : Nat) w3 (HL.out.later B3.out) hm HMC.out HCM.out)
      clear HT
      go_wp2_with fail
      go_at_call 34
      refine FI.out.mono ?_
      rintro e w4 ⟨⟨t, rfl, ht⟩, b4⟩
      have B4 := hid (B3.out.trans (b4.mono B3.out.size))
      have IP : Hid (IsPost f m c real w (.returned (.bool t)) w4) := ⟨⟨t, rfl, by
        rw [ht, ← HW.out, ← HO.out]
        exact ⟨fun h => ⟨HCL.out, RI.out, h⟩, fun h => h.2.2⟩⟩, B4.out⟩
      clear b4 ht FI d0 d1 d2 dz
      cases t
      · go_wp2_with fail
        go_ret
        exact IP.out
      · go_wp2_with fail
        go_ret
        exact IP.out
end Go.Proofs.YtdihbeffomibeaaGreatDoor
namespace Go.Proofs.YtdihbeffomibeaaGreatDoor
set_option linter.unusedVariables false
set_option linter.unusedSimpArgs false
open Go.RowKit Go.Lib Go.Maps

def twoF : Nat → MW := fun j => if j = 0 then (0, 1, 1, ⟨#[]⟩, 0, 0, false, false) else (1, 0, 1, ⟨#[]⟩, 0, 0, false, false)
theorem two_bars : ¬ Bars twoF 2 2 8 := by
  rintro (h | ⟨i, hi, h⟩ | h | h | ⟨n, e, i, hi, h⟩)
  · exact h (.inl rfl)
  · exact h (.inl (by unfold twoF; split <;> rfl))
  · omega
  · omega
  · obtain rfl : n = 2 := by omega
    apply h
    rcases (by omega : i = 0 ∨ i = 1) with rfl | rfl <;> decide
theorem two_tell {k : Nat} {g : Nat → MW} {ok : Bool} (h : TellA twoF 2 2 8 false k g ok) : ok = true := by
  rcases h with ⟨h, _⟩ | ⟨_, n, e, _, h⟩
  · exact absurd h two_bars
  · obtain rfl : n = 2 := by omega
    rcases h with ⟨h, _⟩ | ⟨_, _, h⟩
    · exact h
    · exfalso
      have h16 := gL_16 twoF (fun _ => .inr trivial) 2
      have e1 : edge (gL twoF 2) ((wantN 8 : Nat) : Int) 0 1 = true := (edge_iff _ _ (by decide) 0 1 (h16 0 1)).2 (by decide +kernel)
      have e2 : edge (gL twoF 2) ((othN 8 false : Nat) : Int) 1 0 = true := (edge_iff _ _ (by decide) 1 0 (h16 1 0)).2 (by decide +kernel)
      exact h 0 1 (by decide) (by decide) e1 [0] (by simp) ⟨e2, by decide, rfl⟩
theorem two_is : IsM twoF 2 8 false := by
  refine ⟨.inl rfl, ⟨fun i hi => ?_, fun i j h1 h2 => ?_, by decide⟩, 0, by decide, by decide, fun j hj => by omega, fun j hj hn => ?_⟩
  · rcases (by omega : i = 0 ∨ i = 1) with rfl | rfl <;> decide
  · obtain ⟨rfl, rfl⟩ : i = 0 ∧ j = 1 := by omega
    decide
  · obtain rfl : j = 1 := by omega
    decide +kernel
theorem lw_two (w : World) : Lw (w.alloc (.cells #[.int .i64 0, .int .i64 1, .int .i64 1, .string ⟨#[]⟩, .int .i64 0, .int .i64 0, .bool false, .bool false, .int .i64 1, .int .i64 0, .int .i64 1, .string ⟨#[]⟩, .int .i64 0, .int .i64 0, .bool false, .bool false] 25)) (some ⟨w.heap.size, 0, none⟩) 2 twoF := fun j hj => by
  refine ⟨w.heap.size, 0, rfl, by simp, fun i u hi => ?_⟩
  rw [new_cells]
  have hi8 : i < 8 := by
    have := (List.getElem?_eq_some_iff.1 hi).1
    rwa [encW_len] at this
  rcases (by omega : j = 0 ∨ j = 1) with rfl | rfl
  · rcases (by omega : i = 0 ∨ i = 1 ∨ i = 2 ∨ i = 3 ∨ i = 4 ∨ i = 5 ∨ i = 6 ∨ i = 7) with rfl | rfl | rfl | rfl | rfl | rfl | rfl | rfl <;> exact hi
  · rcases (by omega : i = 0 ∨ i = 1 ∨ i = 2 ∨ i = 3 ∨ i = 4 ∨ i = 5 ∨ i = 6 ∨ i = 7) with rfl | rfl | rfl | rfl | rfl | rfl | rfl | rfl <;> exact hi

set_option maxHeartbeats 8000000 in
set_option maxRecDepth 100000 in
theorem awake_is (w : World) (hT : Tab w) (hC : Cls w) : Calls Tryz.prog 11 #[] w fun e w' => e = .returned (.bool true) ∧ Below w.heap.size w w' := by
  have TB := hid hT
  have CB := hid hC
  clear hT hC
  obtain ⟨W1, hW1⟩ : ∃ W1, w.alloc (.cells #[.int .i64 0, .int .i64 1, .int .i64 1, .string ⟨#[]⟩, .int .i64 0, .int .i64 0, .bool false, .bool false, .int .i64 1, .int .i64 0, .int .i64 1, .string ⟨#[]⟩, .int .i64 0, .int .i64 0, .bool false, .bool false] 25) = W1 := ⟨_, rfl⟩
  obtain ⟨K, hK⟩ : ∃ K, w.heap.size = K := ⟨_, rfl⟩
  have L1 : Hid (Lw W1 (some ⟨K, 0, none⟩) 2 twoF) := by rw [← hW1, ← hK]; exact lw_two w
  have B1 : Hid (Below w.heap.size w W1) := by rw [← hW1]; exact below_box w _
  have FI := hid (cfind_is 2 (some ⟨K, 0, none⟩) 2 2 twoF 8 false W1 L1.out (by decide) (TB.out.later B1.out) (CB.out.later B1.out))
  go_enter Tryz.func11, Tryz.ntmps11
  go_wp2_with fail
  go_at_call 8
  refine FI.out.mono ?_
  rintro e w2 ⟨⟨v, k, g, ok, rfl, htell, _⟩, b2⟩
  obtain rfl := two_tell htell
  have B2 := hid (B1.out.trans (b2.mono B1.out.size))
  have IS := hid (cis_is (some ⟨K, 0, none⟩) 2 2 twoF 8 false w2 (L1.out.later b2) (by decide) (Nat.le_refl _) (by decide) (fun i hi => by rcases (by omega : i = 0 ∨ i = 1) with rfl | rfl; exact ⟨0, rfl, by decide⟩; exact ⟨1, rfl, by decide⟩) (CB.out.later B2.out))
  clear htell b2 FI hW1 hK
  go_wp2_with fail
  go_at_call 15
  refine IS.out.mono ?_
  rintro e w3 ⟨⟨t, rfl, ht⟩, b3⟩
  obtain rfl : t = true := ht.2 two_is
  have B3 := hid (B2.out.trans (b3.mono B2.out.size))
  clear ht b3 IS
  go_wp2_with fail
  go_ret
  exact ⟨rfl, B3.out⟩
end Go.Proofs.YtdihbeffomibeaaGreatDoor
