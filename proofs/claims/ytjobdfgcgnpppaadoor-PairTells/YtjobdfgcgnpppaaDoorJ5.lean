/-
  slices.EqualFunc with sameAsked; readsFit.
  A map by what it holds: whatever its elements are.
  Things.Note: the kinds of keys, in a map.
  What the events so far have told, in memory; delete of a map by what it holds.
  A region that draws its order, by what is known of the value of each of its operations: whatever the order, each operation comes once, behind those that it waits for.
-/
import Derived.Test.YtjobdfgcgnpppaaDoorJ4
import Derived.ProofKit
import Derived.Maps.Own
import Derived.Maps.OwnSet
import Derived.Maps.Views
import Derived.Deep.Cut
import Derived.Test.YtjobdfgcgnpppaaDoorJ2
import Derived.Test.YtjobdfgcgnpppaaDoorJ3
import Derived.WalkKit
import Derived.Orders
import Derived.RowKit
import Derived.Deep.Draws
import Derived.Test.YtjobdfgcgnpppaaDoorProg
namespace Go.Proofs.YtjobdfgcgnpppaaDoor
set_option linter.unusedVariables false
set_option linter.unusedSimpArgs false
open Go.RowKit

set_option maxHeartbeats 2000000 in
theorem asks_walk {S T : Nat → Prop} (a1 a2 : Option Addr) (c1 c2 n : Nat) (xs ys : List MOp) (w : World) (hx : xs.length = n) (hy : ys.length = n) (_hbig : n ≤ 9223372036854775807)
    (h1 : RowCells 6 (OpRow S w) w a1 xs n) (h2 : RowCells 6 (OpRow T w) w a2 ys n) :
    Calls Tryd.prog 36 #[.slice a1 n c1, .slice a2 n c2, .func (.func 53) #[] #[]] w fun e w' => e = .returned (.bool (allEq askB xs ys)) ∧ Below w.heap.size w w' := by
  have HX : Hid (xs.length = n) := hx
  have HY : Hid (ys.length = n) := hy
  clear hx hy
  go_enter Tryd.func36, Tryd.ntmps36
  go_wp2
  go_loopg [7, 8, 9, 17] n (fun g _ _ _ i wr => ∃ k : Nat, k ≤ n ∧ n - k ≤ g ∧ i = .int .i64 k ∧ Aside (Below w.heap.size w wr) ∧ Aside (∀ j, j < k → askB (xs.getD j default) (ys.getD j default) = true))
  case atStart => exact ⟨0, Nat.zero_le _, by omega, rfl, Below.refl _ _, fun j hj => absurd hj (Nat.not_lt_zero _)⟩
  case round =>
    obtain ⟨k, hk, hg, rfl, BW, A⟩ := hrel
    by_cases hlt : k < n
    · have hlti : (k : Int) < (n : Int) := by omega
      obtain ⟨b1, o1, cs1, rfl, hb1, _, ⟨l1, rfl, i1⟩, k1⟩ := h1 k hlt
      obtain ⟨b2, o2, cs2, rfl, hb2, _, ⟨l2, rfl, i2⟩, k2⟩ := h2 k hlt
      clear h1 h2
      have d0 : wr.cell? ⟨b1, o1 + k * 6, none⟩ = _ := (BW.out.cell (p := ⟨b1, o1 + k * 6, none⟩) hb1).trans (k1 0 _ rfl)
      have d1 := (BW.out.cell (p := ⟨b1, o1 + k * 6 + 1, none⟩) hb1).trans (k1 1 _ rfl)
      have d2 := (BW.out.cell (p := ⟨b1, o1 + k * 6 + 2, none⟩) hb1).trans (k1 2 _ rfl)
      have d3 := (BW.out.cell (p := ⟨b1, o1 + k * 6 + 3, none⟩) hb1).trans (k1 3 _ rfl)
      have d4 := (BW.out.cell (p := ⟨b1, o1 + k * 6 + 4, none⟩) hb1).trans (k1 4 _ rfl)
      have d5 := (BW.out.cell (p := ⟨b1, o1 + k * 6 + 5, none⟩) hb1).trans (k1 5 _ rfl)
      have e0 : wr.cell? ⟨b2, o2 + k * 6, none⟩ = _ := (BW.out.cell (p := ⟨b2, o2 + k * 6, none⟩) hb2).trans (k2 0 _ rfl)
      have e1 := (BW.out.cell (p := ⟨b2, o2 + k * 6 + 1, none⟩) hb2).trans (k2 1 _ rfl)
      have e2 := (BW.out.cell (p := ⟨b2, o2 + k * 6 + 2, none⟩) hb2).trans (k2 2 _ rfl)
      have e3 := (BW.out.cell (p := ⟨b2, o2 + k * 6 + 3, none⟩) hb2).trans (k2 3 _ rfl)
      have e4 := (BW.out.cell (p := ⟨b2, o2 + k * 6 + 4, none⟩) hb2).trans (k2 4 _ rfl)
      have e5 := (BW.out.cell (p := ⟨b2, o2 + k * 6 + 5, none⟩) hb2).trans (k2 5 _ rfl)
      clear k1 k2
      have hsz := BW.out.size
      have hb2r : b2 < wr.heap.size := Nat.lt_of_lt_of_le hb2 hsz
      have hne2 : b2 ≠ wr.heap.size := by omega
      have j1 := i1.keep (keeps_below BW.out) (fun _ _ h => h)
      have j2 := i2.keep (keeps_below BW.out) (fun _ _ h => h)
      clear i1 i2
      have HA : Hid (∀ b, b = askB (xs.getD k default) (ys.getD k default) → b = askB (xs.getD k default) (ys.getD k default)) := fun _ h => h
      generalize hX : xs.getD k default = X at *
      generalize hY : ys.getD k default = Y at *
      have HX' := hid hX
      have HY' := hid hY
      clear hX hY HA
      obtain ⟨al1, cl1, rfl, -⟩ := id j1
      obtain ⟨al2, cl2, rfl, -⟩ := id j2
      go_wp2_with fail
      refine (asked_is X Y _ _ _ _ _ _ _).mono ?_
      rintro e w' ⟨rfl, hb⟩
      have hbw : Below w.heap.size w w' := (BW.out.trans ((((Below.refl _ wr).alloc (Nat.le_refl _) _).alloc (by simp) _).mono hsz)).trans (hb.mono (by simp; omega))
      have HB := hid hbw
      clear hb hbw j1 j2 d0 d1 d2 d3 d4 d5 e0 e1 e2 e3 e4 e5
      generalize hq : askB X Y = r
      have HQ := hid hq
      clear hq
      cases r with
      | false =>
        go_wp2
        go_ret
        refine ⟨?_, HB.out⟩
        rw [show allEq askB xs ys = false from allEq_miss _ xs ys k (by rw [HX.out]; exact hlt) (by rw [HX'.out, HY'.out]; exact HQ.out)]
        rfl
      | true =>
        go_wp2
        go_roundg (n - (k + 1))
        case measure => omega
        case rel =>
          refine ⟨k + 1, by omega, by omega, by go_num, HB.out, (show Aside _ from fun j hj => ?_)⟩
          by_cases e : j = k
          · subst e; rw [HX'.out, HY'.out]; exact HQ.out
          · exact A.out j (by omega)
    · go_wp2
      go_ret
      refine ⟨?_, BW.out⟩
      rw [show allEq askB xs ys = true from allEq_hit _ xs ys (by rw [HX.out, HY.out]) (fun j hj => A.out j (by rw [HX.out] at hj; omega))]
      rfl
theorem asks_any {S T : Nat → Prop} (v1 v2 : Value) (xs ys : List MOp) (w : World) (h1 : OpsIn S w v1 xs) (h2 : OpsIn T w v2 ys) :
    Calls Tryd.prog 36 #[v1, v2, .func (.func 53) #[] #[]] w fun e w' => e = .returned (.bool (allEq askB xs ys)) ∧ Below w.heap.size w w' := by
  obtain ⟨a1, c1, rfl, l1, k1⟩ := RowsIn.cells h1 (by omega)
  obtain ⟨a2, c2, rfl, l2, k2⟩ := RowsIn.cells h2 (by omega)
  by_cases h : xs.length = ys.length
  · rw [← h] at k2 ⊢
    exact asks_walk a1 a2 c1 c2 xs.length xs ys w rfl h.symm (by omega) k1 k2
  · rw [show allEq askB xs ys = false from allEq_len _ xs ys h]
    exact equalOps_lens a1 a2 c1 c2 _ _ _ w h

set_option maxHeartbeats 2000000 in
theorem fit_is {S : Nat → Prop} (ek ep : Int) (v : Value) (O : List MOp) (w : World) (h : OpsIn S w v O) : Calls Tryd.prog 54 #[.agg #[.int .i64 ek, .int .i64 ep, v]] w fun e w' => e = .returned (.bool (fitB (ek, ep, O))) ∧ Below w.heap.size w w' := by
  obtain ⟨a1, c1, rfl, l1, k1⟩ := RowsIn.cells h (by omega)
  have HC := hid k1
  have hOl : (O.length : Int) ≤ 9223372036854775807 := by omega
  have WR := hid (fun k W => writes_is k W)
  have BX : Hid (Below w.heap.size w (w.alloc (.cells #[.int .i64 ek, .int .i64 ep, .slice a1 O.length c1] 42))) := (Below.refl _ w).alloc (Nat.le_refl _) _
  have PX : Hid ((w.alloc (.cells #[.int .i64 ek, .int .i64 ep, .slice a1 O.length c1] 42)).cell? ⟨w.heap.size, 0, none⟩ = some (.int .i64 ek)) := new_cells w _ 42 0
  clear h k1
  go_enter Tryd.func54, Tryd.ntmps54
  go_wp2_with fail
  have hxb : Hid (w.heap.size < (w.alloc (.cells #[.int .i64 ek, .int .i64 ep, .slice a1 O.length c1] 42)).heap.size) := by show _ < _; simp
  generalize w.alloc (.cells #[.int .i64 ek, .int .i64 ep, .slice a1 O.length c1] 42) = W at *
  obtain ⟨B, hB⟩ : ∃ B, w.heap.size = B := ⟨_, rfl⟩
  rw [hB] at PX hxb
  rw [show w.heap.size = B from hB]
  have HBB := hid hB
  clear hB
  go_loopg [4, 8] O.length (fun g _ i wr => ∃ k : Nat, k ≤ O.length ∧ O.length - k ≤ g ∧ i = .int .i64 k ∧ Aside (Below W.heap.size W wr) ∧ Aside (∀ j, j < k → (wrt (O.getD j default).kind || ((O.getD j default).has == (ek == 2))) = true))
  case atStart => exact ⟨0, Nat.zero_le _, by omega, rfl, Below.refl _ _, fun j hj => absurd hj (Nat.not_lt_zero _)⟩
  case round =>
    obtain ⟨k, hk, hg, rfl, BW, A⟩ := hrel
    by_cases hlt : k < O.length
    · have hlti : (k : Int) < (O.length : Int) := by omega
      obtain ⟨b1, o1, cs1, rfl, hb1, _, ⟨lv, rfl, i1⟩, q1⟩ := HC.out k hlt
      obtain ⟨la, lc, rfl, -⟩ := id i1
      have BWW : Below w.heap.size w wr := BX.out.trans (BW.out.mono BX.out.size)
      have d0 : wr.cell? ⟨b1, o1 + k * 6, none⟩ = _ := (BWW.cell (p := ⟨b1, o1 + k * 6, none⟩) hb1).trans (q1 0 _ rfl)
      have d1 := (BWW.cell (p := ⟨b1, o1 + k * 6 + 1, none⟩) hb1).trans (q1 1 _ rfl)
      have d2 := (BWW.cell (p := ⟨b1, o1 + k * 6 + 2, none⟩) hb1).trans (q1 2 _ rfl)
      have d3 := (BWW.cell (p := ⟨b1, o1 + k * 6 + 3, none⟩) hb1).trans (q1 3 _ rfl)
      have d4 := (BWW.cell (p := ⟨b1, o1 + k * 6 + 4, none⟩) hb1).trans (q1 4 _ rfl)
      have d5 := (BWW.cell (p := ⟨b1, o1 + k * 6 + 5, none⟩) hb1).trans (q1 5 _ rfl)
      have pe : wr.cell? ⟨B, 0, none⟩ = some (.int .i64 ek) := (BW.out.cell (p := ⟨B, 0, none⟩) hxb.out).trans PX.out
      have BN : ∀ o, Hid (Below W.heap.size W (wr.alloc o)) := fun o => BW.out.trans (((Below.refl _ wr).alloc (Nat.le_refl _) _).mono BW.out.size)
      have BN2 : ∀ o, Hid (Below w.heap.size w (wr.alloc o)) := fun o => BWW.trans (((Below.refl _ wr).alloc (Nat.le_refl _) _).mono BWW.size)
      have hBl : B < wr.heap.size := Nat.lt_of_lt_of_le hxb.out BW.out.size
      have hBn : B ≠ wr.heap.size := by omega
      have NX : Hid ((wrt (O.getD k default).kind || ((O.getD k default).has == (ek == 2))) = true → ∀ j, j < k + 1 → (wrt (O.getD j default).kind || ((O.getD j default).has == (ek == 2))) = true) := fun h j hj => by
        by_cases e : j = k
        · rw [e]; exact h
        · exact A.out j (by omega)
      have ML : Hid ((wrt (O.getD k default).kind || ((O.getD k default).has == (ek == 2))) = false → fitB (ek, ep, O) = false) := fun h => by
        show fitB (ek, ep, O) = false
        unfold fitB
        exact all_miss (l := O) hlt h
      generalize O.getD k default = X at *
      obtain ⟨xk, xs, xv, xl, xh, xn⟩ := X
      simp only [MOp.kind, MOp.has, MOp.key, MOp.value, MOp.list, MOp.nl] at *
      clear q1 i1 BWW
      have WR1 := hid (WR.out xk)
      cases hw : wrt xk with
      | true =>
        rw [hw] at NX ML WR1
        have N2 := hid (NX.out rfl)
        clear NX ML hw
        go_wp2_with (go_at_call 61; refine (WR1.out _).mono ?_; rintro e w2 ⟨rfl, rfl⟩)
        go_roundg (O.length - (k + 1))
        case measure => omega
        case rel => exact ⟨k + 1, by omega, by omega, by go_num, (BN _).out, N2.out⟩
      | false =>
        rw [hw] at NX ML WR1
        clear hw
        cases he : (ek == (2 : Int)) <;> cases xh <;> rw [he] at NX ML
        · have N2 := hid (NX.out rfl)
          clear NX ML
          go_wp2_with (go_at_call 61; refine (WR1.out _).mono ?_; rintro e w2 ⟨rfl, rfl⟩)
          go_roundg (O.length - (k + 1))
          case measure => omega
          case rel => exact ⟨k + 1, by omega, by omega, by go_num, (BN _).out, (by rw [he]; exact N2.out)⟩
        · have M2 := hid (ML.out rfl)
          clear NX ML
          go_wp2_with (go_at_call 61; refine (WR1.out _).mono ?_; rintro e w2 ⟨rfl, rfl⟩)
          go_ret
          exact ⟨ret_bool M2.out.symm, (BN2 _).out⟩
        · have M2 := hid (ML.out rfl)
          clear NX ML
          go_wp2_with (go_at_call 61; refine (WR1.out _).mono ?_; rintro e w2 ⟨rfl, rfl⟩)
          go_ret
          exact ⟨ret_bool M2.out.symm, (BN2 _).out⟩
        · have N2 := hid (NX.out rfl)
          clear NX ML
          go_wp2_with (go_at_call 61; refine (WR1.out _).mono ?_; rintro e w2 ⟨rfl, rfl⟩)
          go_roundg (O.length - (k + 1))
          case measure => omega
          case rel => exact ⟨k + 1, by omega, by omega, by go_num, (BN _).out, (by rw [he]; exact N2.out)⟩
    · have hlti : ¬ (k : Int) < (O.length : Int) := by omega
      have hall : fitB (ek, ep, O) = true := by
        unfold fitB
        rw [List.all_eq_true]
        intro o ho
        obtain ⟨m, hm, rfl⟩ := List.mem_iff_getElem.1 ho
        have hm2 : m < O.length := hm
        have := A.out m (by omega)
        rw [List.getD, List.getElem?_eq_getElem hm] at this
        exact this
      have HA := hid hall
      clear hall
      go_wp2_with fail
      go_ret
      exact ⟨ret_bool HA.out.symm, BX.out.trans (BW.out.mono BX.out.size)⟩
end Go.Proofs.YtjobdfgcgnpppaaDoor
namespace Go.Proofs.YtjobdfgcgnpppaaDoor
set_option linter.unusedVariables false
set_option linter.unusedSimpArgs false
open Go.RowKit Go.Maps

/-- A value reads as itself. -/
def rawR (v : Value) : Option (DataW Value × List MemPlace) := some (.held v, [])
/-- Block b is a map of at most n entries that holds f. -/
def MapV (w : World) (P : Program) (k : TypeId) (b n : Nat) (f : Value → Option Value) : Prop :=
  ∃ D : DataW Value, w.ownsMap P k rawR b n D ∧ ∀ key kl, keyOf P k key = some kl → ∀ zd, D.atKey kl zd = ((f key).map DataW.held).getD zd
theorem MapV.made (w : World) (P : Program) (k : TypeId) : MapV (w.alloc (.map #[] 0)) P k w.heap.size 0 (fun _ => none) :=
  ⟨_, World.ownsMap_made _ _ _ _, fun _ _ _ _ => rfl⟩
theorem MapV.lt {w : World} {P : Program} {k : TypeId} {b n : Nat} {f : Value → Option Value} (h : MapV w P k b n f) : b < w.heap.size := by
  obtain ⟨D, h1, _⟩ := h
  exact h1.lt
theorem MapV.same {w w' : World} {P : Program} {k : TypeId} {b n : Nat} {f : Value → Option Value} (h : MapV w P k b n f) (hb : w'.heap[b]? = w.heap[b]?) : MapV w' P k b n f := by
  obtain ⟨D, ⟨es, clock, h1, h2, h3, h4⟩, h5⟩ := h
  exact ⟨D, ⟨es, clock, hb.trans h1, h2, h3, h4⟩, h5⟩
theorem MapV.mono {w : World} {P : Program} {k : TypeId} {b n n' : Nat} {f : Value → Option Value} (h : MapV w P k b n f) (hn : n ≤ n') : MapV w P k b n' f := by
  obtain ⟨D, h1, h2⟩ := h
  exact ⟨D, h1.mono hn, h2⟩
theorem MapV.block {w : World} {P : Program} {k : TypeId} {b n : Nat} {f : Value → Option Value} (h : MapV w P k b n f) : ∃ es clock, w.heap[b]? = some (.map es clock) := by
  obtain ⟨D, ⟨es, clock, h1, h2, h3, h4⟩, h5⟩ := h
  exact ⟨es, clock, h1⟩
theorem MapV.find {w : World} {P : Program} {k t e : TypeId} {b n : Nat} {f : Value → Option Value} (h : MapV w P k b n f) (K : Keyed P k) (ht : P.underlying t = some (.map k e)) {z : Value} (hz : (zeroValue e).run P w = .ok z w)
    {key : Value} {kl : Lit} (hkey : keyOf P k key = some kl) (c : Bool) : (Instr.lookup t (.map (some b)) key c).run P w = .ok (if c then .tuple #[(f key).getD z, .bool (f key).isSome] else (f key).getD z) w := by
  obtain ⟨D, ⟨es, clock, hb, F, _, rfl⟩, h5⟩ := h
  have hat5 := h5 key kl hkey
  rcases fit_look c K ht hz hb F hkey with ⟨hrun, _, hat⟩ | ⟨e0, y, _, _, hrun, hRv, hat, _⟩
  · have e : f key = none := by
      cases hf : f key with
      | none => rfl
      | some v =>
        have h1 := hat5 .nil
        rw [hat, hf] at h1
        cases h1
    rw [hrun, e]
    rfl
  · have hy : y.1 = .held e0.val := by
      unfold rawR at hRv
      injection hRv with hRv
      rw [← hRv]
    have e : f key = some e0.val := by
      have h1 := hat5 .nil
      rw [hat, hy] at h1
      cases hf : f key with
      | none => rw [hf] at h1; cases h1
      | some v =>
        rw [hf] at h1
        injection h1 with h1
        rw [h1]
    rw [hrun, e]
    rfl
theorem MapV.look {w : World} {P : Program} {k t e : TypeId} {b n : Nat} {f : Value → Option Value} (h : MapV w P k b n f) (K : Keyed P k) (ht : P.underlying t = some (.map k e)) {z : Value} (hz : (zeroValue e).run P w = .ok z w)
    {key : Value} {kl : Lit} (hkey : keyOf P k key = some kl) : (Instr.lookup t (.map (some b)) key false).run P w = .ok ((f key).getD z) w := h.find K ht hz hkey false
theorem MapV.look_ok {w : World} {P : Program} {k t e : TypeId} {b n : Nat} {f : Value → Option Value} (h : MapV w P k b n f) (K : Keyed P k) (ht : P.underlying t = some (.map k e)) {z : Value} (hz : (zeroValue e).run P w = .ok z w)
    {key : Value} {kl : Lit} (hkey : keyOf P k key = some kl) : (Instr.lookup t (.map (some b)) key true).run P w = .ok (.tuple #[(f key).getD z, .bool (f key).isSome]) w := h.find K ht hz hkey true
/-- g is what is held behind a store. -/
def IsPut (f : Value → Option Value) (key val : Value) (g : Value → Option Value) : Prop := g key = some val ∧ ∀ x, x ≠ key → g x = f x
theorem put_ex (f : Value → Option Value) (key val : Value) : ∃ g, IsPut f key val g := by
  classical
  exact ⟨fun x => if x = key then some val else f x, by simp, fun x h => by simp [h]⟩
theorem MapV.put {w : World} {P : Program} {k t e : TypeId} {b n : Nat} {f : Value → Option Value} (h : MapV w P k b n f) (K : Keyed P k) (ht : P.underlying t = some (.map k e)) (hn : n < maxLen) {key : Value} (val : Value) {kl : Lit} (hkey : keyOf P k key = some kl) :
    ∃ w' g, (Instr.mapUpdate t (.map (some b)) key val).run P w = .ok () w' ∧ IsPut f key val g ∧ MapV w' P k b (n + 1) g ∧ w.grownBy w' (some b) := by
  obtain ⟨D, h1, h5⟩ := h
  obtain ⟨w', r1, r2, r3⟩ := h1.update K ht hn hkey (val := val) (d := .held val) (ps := []) rfl
  obtain ⟨g, hp⟩ := put_ex f key val
  refine ⟨w', g, r1, hp, ⟨_, r2, fun key' kl' hk' zd => ?_⟩, r3⟩
  by_cases ek : key' = key
  · subst ek
    rw [hkey] at hk'
    cases hk'
    rw [atKey_put_same h1.isMap (K.key hkey), hp.1]
    rfl
  · have hne : kl' ≠ kl := fun c => ek (K.inj (by rw [hk', c]) hkey)
    rw [atKey_put_other hne, h5 key' kl' hk', hp.2 _ ek]
/-- m[key] = val, in a walk. -/
theorem wpList_mapV {P : Program} {ops : Array Oper} {rest : List Oper} {o : Oper} {a : Act} {Q : Exit → Act → World → Prop} (w : World) (hg : o.guard = none) (m x v : Operand) (t : TypeId) (hop : o.op = Op.mapUpdate t m x v)
    (k e : TypeId) (K : Keyed P k) (ht : P.underlying t = some (.map k e)) (b n : Nat) (f : Value → Option Value) (hm : a.eval m = .map (some b)) (h : MapV w P k b n f) (hn : n < maxLen) (key val : Value) (kl : Lit) (hx : a.eval x = key) (hv : a.eval v = val) (hkey : keyOf P k key = some kl)
    (hK : ∀ w' g, IsPut f key val g → MapV w' P k b (n + 1) g → w.grownBy w' (some b) → wpList P ops Q rest (a.put o.dst undef) w') : wpList P ops Q (o :: rest) a w := by
  refine wpList_plain hg fun K' hK' => ?_
  obtain ⟨w', g, hrun, hp, r1, r2⟩ := h.put K ht hn val hkey
  unfold Oper.wp
  simp [execOp, hop, hm, hx, hv, hrun, Result.andThen]
  exact hK' _ _ (hK w' g hp r1 r2)
end Go.Proofs.YtjobdfgcgnpppaaDoor
namespace Go.Proofs.YtjobdfgcgnpppaaDoor
set_option linter.unusedVariables false
set_option linter.unusedSimpArgs false
open Go.RowKit Go.Maps

theorem keys9 : Keyed Tryd.prog 9 := string_keyed Tryd.underlying9
theorem key9 (s : ByteArray) (hs : s.size ≤ maxLen) : keyOf Tryd.prog 9 (.string s) = some (.string s.data.toList) := Go.WideMaps.keyOf_string_mk Tryd.underlying9 hs
theorem zero3 (w : World) : (zeroValue 3).run Tryd.prog w = .ok (.int .i64 0) w := by kernel_rfl
/-- The map of things, of operations that were noted. -/
def TH (w : World) (hb m : Nat) (A : List MOp) : Prop := ∃ f, MapV w Tryd.prog 9 hb m f ∧ ∀ s, f (.string s) = if thA A s = 0 then none else some (.int .i64 (thA A s))
theorem TH.look {w : World} {hb m : Nat} {A : List MOp} (h : TH w hb m A) (s : ByteArray) (hs : s.size ≤ maxLen) : (Instr.lookup 65 (.map (some hb)) (.string s) false).run Tryd.prog w = .ok (.int .i64 (thA A s)) w := by
  obtain ⟨f, h1, h2⟩ := h
  rw [h1.look keys9 Tryd.underlying65 (zero3 w) (key9 s hs), h2 s]
  by_cases e : thA A s = 0
  · rw [if_pos e, e]; rfl
  · rw [if_neg e]; rfl
theorem TH.same {w w' : World} {hb m : Nat} {A : List MOp} (h : TH w hb m A) (e : w'.heap[hb]? = w.heap[hb]?) : TH w' hb m A := by
  obtain ⟨f, h1, h2⟩ := h
  exact ⟨f, h1.same e, h2⟩
theorem TH.lt {w : World} {hb m : Nat} {A : List MOp} (h : TH w hb m A) : hb < w.heap.size := by
  obtain ⟨f, h1, h2⟩ := h
  exact h1.lt
theorem TH.put {w w' : World} {hb m : Nat} {A : List MOp} (h : TH w hb m A) (o : MOp) (ho : okK o) {f g : Value → Option Value} (hf : MapV w Tryd.prog 9 hb m f) (hf2 : ∀ s, f (.string s) = if thA A s = 0 then none else some (.int .i64 (thA A s))) (hp : IsPut f (.string o.key) (.int .i64 (thg o.kind)) g) (hm : MapV w' Tryd.prog 9 hb (m + 1) g) : TH w' hb (m + 1) (A ++ [o]) := by
  refine ⟨g, hm, fun s => ?_⟩
  rw [thA_snoc]
  by_cases e : o.key = s
  · subst e
    rw [if_pos rfl, if_neg (thg_ne ho), hp.1]
  · rw [if_neg e, hp.2 _ (fun c => e (by injection c with c; exact c.symm)), hf2 s]
theorem note_next (A O : List MOp) (k : Nat) (hk : k < O.length) : noteB (A ++ O.take k) (O.drop k) = if thA (A ++ O.take k) (O.getD k default).key ≠ 0 ∧ thA (A ++ O.take k) (O.getD k default).key ≠ thg (O.getD k default).kind then false else noteB (A ++ O.take (k + 1)) (O.drop (k + 1)) := by
  have e : O.drop k = O.getD k default :: O.drop (k + 1) := by
    rw [List.drop_eq_getElem_cons hk, List.getD, List.getElem?_eq_getElem hk]
    rfl
  have e2 : O.take (k + 1) = O.take k ++ [O.getD k default] := by
    rw [List.take_add_one, List.getElem?_eq_getElem hk, List.getD, List.getElem?_eq_getElem hk]
    rfl
  rw [e, e2, ← List.append_assoc]
  rfl
/-- All but one block stays. -/
def ButB (hb : Nat) (w w' : World) : Prop := w'.os = w.os ∧ w'.tape = w.tape ∧ w'.output = w.output ∧ w.heap.size ≤ w'.heap.size ∧ ∀ b, b < w.heap.size → b ≠ hb → w'.heap[b]? = w.heap[b]?
theorem ButB.refl (hb : Nat) (w : World) : ButB hb w w := ⟨rfl, rfl, rfl, Nat.le_refl _, fun _ _ _ => rfl⟩
theorem ButB.below {hb : Nat} {w w1 w2 : World} (h : ButB hb w w1) (hb' : Below w1.heap.size w1 w2) : ButB hb w w2 := ⟨hb'.os.trans h.1, hb'.tape.trans h.2.1, hb'.output.trans h.2.2.1, Nat.le_trans h.2.2.2.1 hb'.size, fun b hl hn => (hb'.block b (Nat.lt_of_lt_of_le hl h.2.2.2.1)).trans (h.2.2.2.2 b hl hn)⟩
theorem ButB.grown {hb : Nat} {w w1 w2 : World} (h : ButB hb w w1) (hg : w1.grownBy w2 (some hb)) : ButB hb w w2 := ⟨hg.os.trans h.1, hg.tape.trans h.2.1, hg.output.trans h.2.2.1, Nat.le_trans h.2.2.2.1 hg.size, fun b hl hn => (hg.block b (Nat.lt_of_lt_of_le hl h.2.2.2.1) (fun e => hn (by injection e))).trans (h.2.2.2.2 b hl hn)⟩
def NotePost (w : World) (hb m : Nat) (A O : List MOp) (e : Ending) (w' : World) : Prop := e = .returned (.bool (noteB A O)) ∧ ButB hb w w' ∧ (noteB A O = true → TH w' hb (m + O.length) (A ++ O))
set_option maxHeartbeats 4000000 in
set_option maxRecDepth 100000 in
theorem note_is {S : Nat → Prop} (v : Value) (A O : List MOp) (w : World) (hb m : Nat) (h : OpsIn S w v O) (hS : ∀ b, S b → b ≠ hb) (ht : TH w hb m A) (hok : ∀ o ∈ O, okK o) (hks : ∀ o ∈ O, o.key.size ≤ maxLen) (hm : m + O.length < maxLen) :
    Calls Tryd.prog 55 #[.map (some hb), v] w fun e w' => NotePost w hb m A O e w' := by
  obtain ⟨ao, c1, rfl, l1, hc0⟩ := h
  have HC := hid hc0
  have HT := hid ht
  have HOK := hid hok
  have HKS := hid hks
  have HS := hid hS
  have TI := hid (fun k W => thing_is k W)
  have hOl : (O.length : Int) ≤ 9223372036854775807 := by omega
  clear hc0 ht hok hks hS
  go_enter Tryd.func55, Tryd.ntmps55
  go_wp2_with fail
  go_loopg [6, 7, 8, 11] O.length (fun gg _ _ _ i wr => ∃ k : Nat, k ≤ O.length ∧ O.length - k ≤ gg ∧ i = .int .i64 k ∧ Aside (ButB hb w wr ∧ TH wr hb (m + k) (A ++ O.take k) ∧ noteB A O = noteB (A ++ O.take k) (O.drop k)))
  case atStart => exact ⟨0, Nat.zero_le _, by omega, rfl, ⟨ButB.refl _ _, by simpa using HT.out, by simp⟩⟩
  case round =>
    obtain ⟨k, hk, hg, rfl, AR⟩ := hrel
    obtain ⟨bb, th, nb⟩ := AR.out
    have BB := hid bb
    have THK := hid th
    have NB := hid nb
    clear AR bb th nb
    by_cases hlt : k < O.length
    · have hlti : (k : Int) < (O.length : Int) := by omega
      obtain ⟨b1, o1, rfl, hsb, hrow⟩ := HC.out (by omega)
      obtain ⟨cs, _, ⟨lv, rfl, i1⟩, q1⟩ := hrow k hlt
      obtain ⟨la, lc, rfl, -⟩ := id i1
      have hne := HS.out b1 hsb
      have hbl := World.block_lt_of_cell? _ _ (q1 0 _ rfl)
      have cell : ∀ j u, w.cell? ⟨b1, j, none⟩ = some u → wr.cell? ⟨b1, j, none⟩ = some u := fun j u hu => (World.cell?_of_block (a := ⟨b1, j, none⟩) (BB.out.2.2.2.2 b1 hbl hne)).trans hu
      have d0 : wr.cell? ⟨b1, o1 + k * 6, none⟩ = _ := cell _ _ (q1 0 _ rfl)
      have d1 := cell _ _ (q1 1 _ rfl)
      have d2 := cell _ _ (q1 2 _ rfl)
      have d3 := cell _ _ (q1 3 _ rfl)
      have d4 := cell _ _ (q1 4 _ rfl)
      have d5 := cell _ _ (q1 5 _ rfl)
      have hmem : O.getD k default ∈ O := by simp [List.getD, List.getElem?_eq_getElem hlt]
      have OKX := hid (HOK.out _ hmem)
      have hkx := HKS.out _ hmem
      have NN := hid (NB.out.trans (note_next A O k hlt))
      have E2 : Hid (O.take (k + 1) = O.take k ++ [O.getD k default]) := by
        show _ = _
        rw [List.take_add_one, List.getElem?_eq_getElem hlt, List.getD, List.getElem?_eq_getElem hlt]
        rfl
      generalize O.getD k default = X at *
      have TX := hid (fun W => TI.out X.kind W)
      have LK := hid (fun W (q : TH W hb (m + k) (A ++ O.take k)) => q.look X.key hkx)
      generalize hAK : A ++ O.take k = AK at *
      have OX : Hid (X = (X.kind, X.key, X.value, X.list, X.has, X.nl)) := rfl
      have BX1 : ∀ o, Hid (ButB hb w (wr.alloc o)) := fun o => BB.out.below ((Below.refl _ wr).alloc (Nat.le_refl _) _)
      have TX1 : ∀ o, Hid (TH (wr.alloc o) hb (m + k) AK) := fun o => THK.out.same (((Below.refl _ wr).alloc (Nat.le_refl _) _ : Below wr.heap.size wr (wr.alloc o)).block hb THK.out.lt)
      clear q1 i1 hrow cell hmem
      go_upto_region 4 with fail
      have Y0 := hid (new_cells wr #[.int .i64 X.kind, .string X.key, .int .i64 X.value, .slice la X.list.length lc, .bool X.has, .bool X.nl] 76 0)
      have Y1 := hid (new_cells wr #[.int .i64 X.kind, .string X.key, .int .i64 X.value, .slice la X.list.length lc, .bool X.has, .bool X.nl] 76 1)
      have BX2 := BX1 (.cells #[.int .i64 X.kind, .string X.key, .int .i64 X.value, .slice la X.list.length lc, .bool X.has, .bool X.nl] 76)
      have TX2 := TX1 (.cells #[.int .i64 X.kind, .string X.key, .int .i64 X.value, .slice la X.list.length lc, .bool X.has, .bool X.nl] 76)
      clear d0 d1 d2 d3 d4 d5 BX1 TX1
      generalize wr.alloc (.cells #[.int .i64 X.kind, .string X.key, .int .i64 X.value, .slice la X.list.length lc, .bool X.has, .bool X.nl] 76) = W at *
      generalize wr.heap.size = xb at *
      have y0 : W.cell? ⟨xb, 0, none⟩ = some (.int .i64 X.kind) := Y0.out
      have y1 : W.cell? ⟨xb, 1, none⟩ = some (.string X.key) := Y1.out
      have lk := LK.out W TX2.out
      have hmk : m + k < maxLen := by omega
      obtain ⟨f, hf, hf2⟩ := id TX2.out
      have PUT := hid (fun (w' : World) (g : Value → Option Value) (hp : IsPut f (.string X.key) (.int .i64 (thg X.kind)) g) (hm' : MapV w' Tryd.prog 9 hb (m + k + 1) g) => TH.put TX2.out X OKX.out hf hf2 hp hm')
      have MF := hid hf
      clear hf hf2
      obtain ⟨T0, hT0⟩ : ∃ T0, thA AK X.key = T0 := ⟨_, rfl⟩
      obtain ⟨T1, hT1⟩ : ∃ T1, thg X.kind = T1 := ⟨_, rfl⟩
      have TXK : Hid (∀ W, Calls Tryd.prog 62 #[.int .i64 X.kind] W fun e w' => e = .returned (.int .i64 T1) ∧ W = w') := fun W => by have := TX.out W; rw [hT1] at this; exact this
      rw [hT0] at lk NN
      rw [hT1] at NN PUT
      clear hT0 hT1 TX TI LK
      have WAY : (T0 ≠ 0 ∧ T0 ≠ T1) ∨ ¬ (T0 ≠ 0 ∧ T0 ≠ T1) := Classical.em _
      rcases WAY with hc | hc
      · have q0 : (T0 == (0 : Int)) = false := by simpa using hc.1
        have q1 : (T0 == T1) = false := by simpa using hc.2
        have q0n : (T0 != (0 : Int)) = true := by simpa using hc.1
        have q1n : (T0 != T1) = true := by simpa using hc.2
        have NF : Hid (noteB A O = false) := by show _ = _; rw [NN.out, if_pos hc]
        clear hc NN
        go_wp2_with (go_at_call 62; refine (TXK.out _).mono ?_; rintro e w2 ⟨rfl, rfl⟩)
        go_ret
        exact ⟨ret_bool NF.out.symm, BX2.out, fun c => by rw [NF.out] at c; cases c⟩
      · have NF : Hid (noteB A O = noteB (A ++ O.take (k + 1)) (O.drop (k + 1))) := by show _ = _; rw [NN.out, if_neg hc]
        have EA : Hid (A ++ O.take (k + 1) = AK ++ [X]) := by show _ = _; rw [E2.out, ← hAK, List.append_assoc]
        clear NN E2 hAK
        have q01 : T0 = 0 ∨ (T0 ≠ 0 ∧ T0 = T1) := by
          by_cases e : T0 = 0
          · exact .inl e
          · by_cases e2 : T0 = T1
            · exact .inr ⟨e, e2⟩
            · exact absurd ⟨e, e2⟩ hc
        clear hc
        rcases q01 with e | ⟨e, e2⟩
        · subst e
          have q0 : ((0 : Int) == (0 : Int)) = true := rfl
          have q0n : ((0 : Int) != (0 : Int)) = false := rfl
          go_wp2_with (first
            | (go_at_call 62; refine (TXK.out _).mono ?_; rintro e w2 ⟨rfl, rfl⟩)
            | (at_mapUpdate; refine wpList_mapV _ rfl _ _ _ 65 rfl 9 3 keys9 Tryd.underlying65 hb (m + k) f rfl MF.out hmk (.string X.key) (.int .i64 T1) _ rfl rfl (key9 X.key hkx) ?_; intro w2 g2 hp hm2 hg2; have P2 := hid (PUT.out w2 g2 hp hm2); have B2 := hid (BX2.out.grown hg2); clear hp hm2 hg2))
          go_roundg (O.length - (k + 1))
          case measure => omega
          case rel => exact ⟨k + 1, by omega, by omega, by go_num, ⟨B2.out, (by rw [EA.out]; exact P2.out), NF.out⟩⟩
        · subst e2
          have q0 : (T0 == (0 : Int)) = false := by simpa using e
          have q0n : (T0 != (0 : Int)) = true := by simpa using e
          have q1 : (T0 == T0) = true := by simp
          have q1n : (T0 != T0) = false := by simp
          clear e
          go_wp2_with (first
            | (go_at_call 62; refine (TXK.out _).mono ?_; rintro e w2 ⟨rfl, rfl⟩)
            | (at_mapUpdate; refine wpList_mapV _ rfl _ _ _ 65 rfl 9 3 keys9 Tryd.underlying65 hb (m + k) f rfl MF.out hmk (.string X.key) (.int .i64 T0) _ rfl rfl (key9 X.key hkx) ?_; intro w2 g2 hp hm2 hg2; have P2 := hid (PUT.out w2 g2 hp hm2); have B2 := hid (BX2.out.grown hg2); clear hp hm2 hg2))
          go_roundg (O.length - (k + 1))
          case measure => omega
          case rel => exact ⟨k + 1, by omega, by omega, by go_num, ⟨B2.out, (by rw [EA.out]; exact P2.out), NF.out⟩⟩
    · have hlti : ¬ (k : Int) < (O.length : Int) := by omega
      have hke : k = O.length := by omega
      have FIN : Hid (noteB A O = true ∧ TH wr hb (m + O.length) (A ++ O)) := by
        have q1 := THK.out
        have q2 := NB.out
        rw [hke, List.take_length] at q1
        rw [hke, List.take_length, List.drop_length] at q2
        exact ⟨q2, q1⟩
      clear hke THK NB
      go_wp2_with fail
      go_ret
      exact ⟨ret_bool FIN.out.1.symm, BB.out, fun _ => FIN.out.2⟩
end Go.Proofs.YtjobdfgcgnpppaaDoor
namespace Go.Proofs.YtjobdfgcgnpppaaDoor
set_option linter.unusedVariables false
set_option linter.unusedSimpArgs false
open Go.RowKit Go.Maps

/-- g is what is held behind a delete. -/
def IsDrop (f : Value → Option Value) (key : Value) (g : Value → Option Value) : Prop := g key = none ∧ ∀ x, x ≠ key → g x = f x
theorem drop_ex (f : Value → Option Value) (key : Value) : ∃ g, IsDrop f key g := by
  classical
  exact ⟨fun x => if x = key then none else f x, by simp, fun x h => by simp [h]⟩
theorem MapV.drop {w : World} {P : Program} {k t e : TypeId} {b n : Nat} {f : Value → Option Value} (h : MapV w P k b n f) (K : Keyed P k) (ht : P.underlying t = some (.map k e)) {key : Value} {kl : Lit} (hkey : keyOf P k key = some kl) (ty : TypeId) :
    ∃ w' g, (Builtin.delete_ #[t, k] ty #[.map (some b), key]).run P w = .ok (.tuple #[]) w' ∧ IsDrop f key g ∧ MapV w' P k b n g ∧ w.grownBy w' (some b) := by
  obtain ⟨D, h1, h5⟩ := h
  obtain ⟨w', r1, r2, r3⟩ := h1.drop K ht hkey ty
  obtain ⟨g, hp⟩ := drop_ex f key
  refine ⟨w', g, r1, hp, ⟨_, r2, fun key' kl' hk' zd => ?_⟩, r3.grown⟩
  by_cases ek : key' = key
  · subst ek
    rw [hkey] at hk'
    cases hk'
    rw [atKey_del_same, hp.1]
    rfl
  · have hne : kl' ≠ kl := fun c => ek (K.inj (by rw [hk', c]) hkey)
    rw [atKey_del_other hne, h5 key' kl' hk', hp.2 _ ek]
/-- delete(m, key), in a walk. -/
theorem wpList_dropV {P : Program} {ops : Array Oper} {rest : List Oper} {o : Oper} {a : Act} {Q : Exit → Act → World → Prop} (w : World) (hg : o.guard = none) (m x : Operand) (t k : TypeId) (hop : o.op = Op.call { callee := Callee.builtin Builtin.delete, args := #[m, x], argTypes := #[t, k] })
    (e : TypeId) (K : Keyed P k) (ht : P.underlying t = some (.map k e)) (b n : Nat) (f : Value → Option Value) (hm : a.eval m = .map (some b)) (h : MapV w P k b n f) (key : Value) (kl : Lit) (hx : a.eval x = key) (hkey : keyOf P k key = some kl)
    (hK : ∀ w' g, IsDrop f key g → MapV w' P k b n g → w.grownBy w' (some b) → wpList P ops Q rest (a.put o.dst (.tuple #[])) w') : wpList P ops Q (o :: rest) a w := by
  refine wpList_plain hg fun K' hK' => ?_
  obtain ⟨w', g, hrun, hp, r1, r2⟩ := h.drop K ht hkey o.type
  unfold Oper.wp
  simp [execOp, hop, resolve, invoke, builtin, hm, hx, hrun, Result.andThen]
  exact hK' _ _ (hK w' g hp r1 r2)
theorem keys3 : Keyed Tryd.prog 3 := int_keyed Tryd.underlying3
/-- The five cells of a transaction, its operations in memory of its own. -/
def TxR (S : Nat → Prop) (w : World) (cs : List Value) (t : MTx) : Prop :=
  ∃ ov, cs = [.int .i64 t.proc, .int .i64 t.state, .int .i64 t.since, .int .i64 t.till, ov] ∧ OpsOwn S w ov t.ops
theorem OpsOwn.keep {S T : Nat → Prop} {w w' : World} {v : Value} {l : List MOp} (h : OpsOwn S w v l) (hk : KeepsIn S w w') (hT : ∀ b, b < w.heap.size → S b → T b) : OpsOwn T w' v l := RowsOwn.keep opSoft_keep (by decide) h hk hT
theorem OpsOwn.rows {S : Nat → Prop} {w : World} {v : Value} {l : List MOp} (h : OpsOwn S w v l) : OpsIn S w v l := by
  have h1 := RowsOwn.rows (T := S) (w' := w) opSoft_keep h
  exact RowsIn.keep h1 (by decide) (fun cs x hr => OpRow.keep hr (fun _ _ _ => rfl) (fun _ _ hb => hb.1)) (fun _ _ _ => rfl) (fun _ _ hb => hb)
theorem txR_keep (S T : Nat → Prop) (w w' : World) (cs : List Value) (x : MTx) (h : TxR S w cs x) (hk : KeepsIn S w w') (hT : ∀ b, b < w.heap.size → S b → T b) : TxR T w' cs x := by
  obtain ⟨ov, h1, h2⟩ := h
  exact ⟨ov, h1, h2.keep hk hT⟩
/-- Of each process with an open invocation the number of its transaction. -/
def OM (w : World) (ob m : Nat) (l : List MEv) (k : Nat) : Prop := ∃ f, MapV w Tryd.prog 3 ob m f ∧ ∀ p : Int, f (.int .i64 p) = (opnP l k p).map fun i => .int .i64 (invN l i : Int)
/-- What the first k events have told: a box of 103 cells at pb, two maps, the transactions in a row from B on. -/
structure PT (w : World) (B pb ob hb : Nat) (l : List MEv) (k : Nat) : Prop where
  hpb : pb < B
  hob : ob < B
  hhb : hb < B
  hB : B ≤ w.heap.size
  n1 : pb ≠ ob
  n2 : pb ≠ hb
  n3 : ob ≠ hb
  c1 : w.cell? ⟨pb, 1, none⟩ = some (.map (some ob))
  gone : ∀ p : Nat, p < 100 → w.cell? ⟨pb, 2 + p, none⟩ = some (.bool (goneP l k p))
  c2 : w.cell? ⟨pb, 102, none⟩ = some (.map (some hb))
  soft : ∀ o, w.frozen? ⟨pb, o, none⟩ = false
  opn : ∃ m, m ≤ k ∧ OM w ob m l k
  tx : ∃ v rows, w.cell? ⟨pb, 0, none⟩ = some v ∧ OutInv 44 5 TxR B w v (invN l k) rows (txL l k)
/-- A world in which no block but hb has changed. -/
theorem OutInv.stay {e size B n : Nat} {α : Type} [Inhabited α] {R : (Nat → Prop) → World → List Value → α → Prop} {w w' : World} {v : Value} {rows : List (List Value)} {l : List α} (hkeep : ∀ (S T : Nat → Prop) w w' cs x, R S w cs x → KeepsIn S w w' → (∀ b, b < w.heap.size → S b → T b) → R T w' cs x) (h : OutInv e size R B w v n rows l) (hk : ∀ b, b < w.heap.size → B ≤ b → w'.heap[b]? = w.heap[b]?) : OutInv e size R B w' v n rows l :=
  ⟨h.rn, h.ln, owns_keep h.own (fun g hg => hk g (h.own.lt g hg).2 (h.own.lt g hg).1), h.sizes, fun j hj => hkeep _ _ _ _ _ _ (h.each j hj) (fun b hb hl => hk b hl hb.1) (fun _ _ hb => hb)⟩
theorem frozen_same {w w' : World} {b : Nat} (h : w'.heap[b]? = w.heap[b]?) (o : Nat) : w'.frozen? ⟨b, o, none⟩ = w.frozen? ⟨b, o, none⟩ := frozen_of_block h o
theorem cell_same {w w' : World} {b o : Nat} {v : Value} (h : w'.heap[b]? = w.heap[b]?) (hc : w.cell? ⟨b, o, none⟩ = some v) : w'.cell? ⟨b, o, none⟩ = some v := (World.cell?_of_block (a := ⟨b, o, none⟩) h).trans hc
theorem OM.same {w w' : World} {ob m : Nat} {l : List MEv} {k : Nat} (h : OM w ob m l k) (e : w'.heap[ob]? = w.heap[ob]?) : OM w' ob m l k := by
  obtain ⟨f, h1, h2⟩ := h
  exact ⟨f, h1.same e, h2⟩
theorem OM.lt {w : World} {ob m : Nat} {l : List MEv} {k : Nat} (h : OM w ob m l k) : ob < w.heap.size := by
  obtain ⟨f, h1, h2⟩ := h
  exact h1.lt
theorem PT.keep {w w' : World} {B pb ob hb : Nat} {l : List MEv} {k : Nat} (h : PT w B pb ob hb l k) (hs : w.heap.size ≤ w'.heap.size) (hk : ∀ b, b < w.heap.size → b ≠ hb → w'.heap[b]? = w.heap[b]?) : PT w' B pb ob hb l k := by
  have h1 := h.hpb
  have h2 := h.hob
  have h3 := h.hhb
  have h4 := h.hB
  have ep := hk pb (by omega) h.n2
  refine ⟨h1, h2, h3, by omega, h.n1, h.n2, h.n3, cell_same ep h.c1, fun p hp => cell_same ep (h.gone p hp), cell_same ep h.c2, fun o => (frozen_same ep o).trans (h.soft o), ?_, ?_⟩
  · obtain ⟨m, hm, ho⟩ := h.opn
    exact ⟨m, hm, ho.same (hk ob (by omega) h.n3)⟩
  · obtain ⟨v, rows, c, ht⟩ := h.tx
    exact ⟨v, rows, cell_same ep c, ht.stay txR_keep (fun b hl hB => hk b hl (by omega))⟩
/-- What a step leaves: all that is older than B, but for two blocks. -/
def KB (B pb ob : Nat) (w w' : World) : Prop := w'.os = w.os ∧ w'.tape = w.tape ∧ w'.output = w.output ∧ w.heap.size ≤ w'.heap.size ∧ ∀ b, b < B → b ≠ pb → b ≠ ob → w'.heap[b]? = w.heap[b]?
/-- One element more. -/
theorem OutInv.more {α : Type} [Inhabited α] {e size : Nat} {R : (Nat → Prop) → World → List Value → α → Prop} {B : Nat} {wr w3 w4 : World} {v : Value} {n : Nat} {rows : List (List Value)} {l : List α} (hkeep : ∀ (S T : Nat → Prop) w w' cs x, R S w cs x → KeepsIn S w w' → (∀ b, b < w.heap.size → S b → T b) → R T w' cs x)
    (h : OutInv e size R B wr v n rows l) (hB : B ≤ wr.heap.size) (h3 : Below wr.heap.size wr w3) {row : List Value} {x : α} (hrow : R (fun b => wr.heap.size ≤ b) w3 row x) (hlen : row.length = size)
    {g cap : Nat} (hown : w4.ownsRow B e size (.slice (some ⟨g, 0, none⟩) (n + 1) cap) (n + 1) (rows.flatten ++ row)) (hgrow : w3.grownBy w4 v.ownBlock) (hat : v.ownBlock = some g ∨ g = w3.heap.size) :
    OutInv e size R B w4 (.slice (some ⟨g, 0, none⟩) (n + 1) cap) (n + 1) (rows ++ [row]) (l ++ [x]) := by
  have hsz := h3.size
  have hlt : ∀ k, v.ownBlock = some k → k < wr.heap.size := fun k hk => (h.own.lt k hk).2
  refine ⟨by simp [h.rn], by simp [h.ln], by simpa using hown, ?_, fun j hj => ?_⟩
  · intro r hr
    rcases List.mem_append.1 hr with hr | hr
    · exact h.sizes r hr
    · simp at hr; rw [hr]; exact hlen
  · by_cases hjn : j < n
    · have e1 : (rows ++ [row]).getD j [] = rows.getD j [] := by simp [List.getD, List.getElem?_append_left (show j < rows.length by rw [h.rn]; exact hjn)]
      have e2 : (l ++ [x]).getD j default = l.getD j default := by simp [List.getD, List.getElem?_append_left (show j < l.length by rw [h.ln]; exact hjn)]
      rw [e1, e2]
      refine hkeep _ _ wr w4 _ _ (h.each j hjn) (fun b hb hbl => ?_) (fun b hbl hb => ⟨hb.1, ?_⟩)
      · exact (hgrow.block b (by omega) (fun e => hb.2 e.symm)).trans (h3.block b hbl)
      · simp only [Value.ownBlock]
        intro e
        cases e
        rcases hat with h' | h'
        · exact hb.2 h'
        · omega
    · have hjn' : j = n := by omega
      subst hjn'
      have e1 : (rows ++ [row]).getD j [] = row := by simp [List.getD, ← h.rn]
      have e2 : (l ++ [x]).getD j default = x := by simp [List.getD, ← h.ln]
      rw [e1, e2]
      refine hkeep _ _ w3 w4 _ _ hrow (fun b hb hbl => ?_) (fun b hbl hb => ⟨by omega, ?_⟩)
      · exact hgrow.block b hbl (fun e => by have := hlt b e.symm; omega)
      · simp only [Value.ownBlock]
        intro e
        cases e
        rcases hat with h' | h'
        · have := hlt _ h'; omega
        · omega
end Go.Proofs.YtjobdfgcgnpppaaDoor
namespace Go.Proofs.YtjobdfgcgnpppaaDoor
set_option linter.unusedVariables false
set_option linter.unusedSimpArgs false
open Go.RowKit

section
variable {P : Program} {ops : Array Oper} {Q : Exit → Act → World → Prop} {md : Region.Mode}
/-- How many operations are still to come. -/
def leftN (ops : Array Oper) (listed : Array Bool) : Nat := ((List.range ops.size).filter fun i => !listed.getD i true).length
theorem filter_lt {α : Type} (p q : α → Bool) : ∀ (l : List α), (∀ x ∈ l, q x = true → p x = true) → (∃ x ∈ l, p x = true ∧ q x = false) → (l.filter q).length < (l.filter p).length
  | [], _, h => by obtain ⟨x, hx, _⟩ := h; cases hx
  | a :: l, h1, h2 => by
    have hle : (l.filter q).length ≤ (l.filter p).length := by
      clear h2
      induction l with
      | nil => simp
      | cons b l ih =>
        have := ih (fun x hx => h1 x (by simp at hx ⊢; rcases hx with rfl | hx <;> simp_all))
        have hb := h1 b (by simp)
        simp only [List.filter_cons]
        cases hq : q b <;> cases hp : p b <;> simp_all <;> omega
    by_cases ha : p a = true ∧ q a = false
    · simp only [List.filter_cons, ha.1, ha.2]
      simp
      omega
    · have : ∃ x ∈ l, p x = true ∧ q x = false := by
        obtain ⟨x, hx, hp⟩ := h2
        simp at hx
        rcases hx with rfl | hx
        · exact absurd hp ha
        · exact ⟨x, hx, hp⟩
      have ih := filter_lt p q l (fun x hx => h1 x (by simp [hx])) this
      simp only [List.filter_cons]
      have ha1 := h1 a (by simp)
      cases hq : q a <;> cases hp : p a <;> simp_all
theorem leftN_set {listed : Array Bool} {i : Nat} (hi : i < ops.size) (h : listed.getD i true = false) : leftN ops (listed.setIfInBounds i true) < leftN ops listed := by
  unfold leftN
  have hl : i < listed.size := by
    rcases Nat.lt_or_ge i listed.size with c | c
    · exact c
    · rw [Array.getD_eq_getD_getElem?, Array.getElem?_eq_none c] at h; cases h
  refine filter_lt _ _ _ (fun x _ hx => ?_) ⟨i, by simpa using hi, by simp [h], ?_⟩
  · simp only [Bool.not_eq_true'] at hx ⊢
    by_cases e : i = x
    · subst e
      rw [Array.getD_eq_getD_getElem?, Array.getElem?_setIfInBounds_self_of_lt hl] at hx
      cases hx
    · rwa [getD_set_ne true e] at hx
  · rw [Array.getD_eq_getD_getElem?, Array.getElem?_setIfInBounds_self_of_lt hl]
    rfl
/-- By a statement that each operation which may come carries on. -/
theorem wpAny_inv (J : Array Bool → Act → World → Prop)
    (hstep : ∀ listed a w, J listed a w → ∀ i, i ∈ Region.ready md ops listed → wpOp P ops Q i (J (listed.setIfInBounds i true)) a w)
    (hend : ∀ listed a w, J listed a w → Region.ready md ops listed = [] → Q .normal a w) :
    ∀ (fuel : Nat) (listed : Array Bool) (a : Act) (w : World), leftN ops listed ≤ fuel → J listed a w → wpAny P md ops Q fuel listed a w := by
  intro fuel
  induction fuel with
  | zero =>
    intro listed a w hf hJ
    have hr : Region.ready md ops listed = [] := by
      cases hr : Region.ready md ops listed with
      | nil => rfl
      | cons x xs =>
        have hx : x ∈ Region.ready md ops listed := by rw [hr]; simp
        rw [mem_ready] at hx
        obtain ⟨h1, o, ho, h2⟩ := hx
        have := leftN_set (ops := ops) (Array.getElem?_eq_some_iff.1 ho).1 h1
        omega
    exact ⟨hr, hend listed a w hJ hr⟩
  | succ fuel ih =>
    intro listed a w hf hJ
    refine ⟨fun hr => hend listed a w hJ hr, fun i hi => ?_⟩
    have hi' := hi
    rw [mem_ready] at hi'
    obtain ⟨h1, o, ho, h2⟩ := hi'
    have hl := leftN_set (ops := ops) (Array.getElem?_eq_some_iff.1 ho).1 h1
    exact wpOp_mono (fun a' w' hJ' => ih _ a' w' (by omega) hJ') (hstep listed a w hJ i hi)
end
/-- One value put in. -/
def upV (val : Nat → Value) (i : Nat) (v : Value) : Nat → Value := fun j => if j = i then v else val j
theorem upV_self (val : Nat → Value) (i : Nat) (v : Value) : upV val i v i = v := by simp [upV]
theorem upV_ne (val : Nat → Value) (i j : Nat) (v : Value) (h : j ≠ i) : upV val i v j = val j := by simp [upV, h]
/-- What each operation waits for stands ahead of it. -/
def aheadB (ops : Array Oper) : Bool := (List.range ops.size).all fun i => match ops[i]? with
  | none => true
  | some o => o.after.all fun e => !Region.binds .any e || decide (e.on < i)
theorem ahead_of {ops : Array Oper} (h : aheadB ops = true) {i : Nat} {o : Oper} (ho : ops[i]? = some o) (e : Edge) (he : e ∈ o.after) (hb : Region.binds .any e = true) : e.on < i := by
  unfold aheadB at h
  rw [List.all_eq_true] at h
  have h1 := h i (List.mem_range.2 (Array.getElem?_eq_some_iff.1 ho).1)
  rw [ho] at h1
  simp only [Array.all_eq_true_iff_forall_mem, Bool.or_eq_true, Bool.not_eq_true', decide_eq_true_eq] at h1
  rcases h1 e he with c | c
  · rw [hb] at c; cases c
  · exact c
theorem all_listed {ops : Array Oper} (h : aheadB ops = true) {listed : Array Bool} (hs : listed.size = ops.size) (hr : Region.ready .any ops listed = []) : ∀ i, i < ops.size → listed.getD i false = true := by
  intro i
  induction i using Nat.strongRecOn with
  | ind i ih =>
    intro hi
    cases hg : listed.getD i false with
    | true => rfl
    | false =>
      exfalso
      have ho : ops[i]? = some ops[i] := Array.getElem?_eq_getElem hi
      have hm : i ∈ Region.ready .any ops listed := by
        rw [mem_ready]
        refine ⟨?_, _, ho, fun e he hb => ?_⟩
        · have hl : i < listed.size := by omega
          rw [Array.getD_eq_getD_getElem?, Array.getElem?_eq_getElem hl] at hg ⊢
          exact hg
        · have hlt := ahead_of h ho e he hb
          exact ih e.on hlt (by omega)
      rw [hr] at hm
      cases hm
/-- A region that draws its order: R i v w: v is what operation i has yielded, seen from the world w; nothing that lay there turns. -/
theorem wp_region_inv {P : Program} {ops : Array Oper} {Q : Exit → Act → World → Prop} {id : Nat} {a0 : Act} {w0 : World} (hm : P.follows .mixedOrders = true) (hah : aheadB ops = true)
    (frame : (Nat → Value) → Act) (R : Nat → Value → World → Prop) (val0 : Nat → Value) (h0 : a0 = frame val0)
    (hstab : ∀ i v w w', R i v w → Below w.heap.size w w' → R i v w')
    (hop : ∀ i o, ops[i]? = some o → ∀ val w, Below w0.heap.size w0 w → (∀ e ∈ o.after, Region.binds .any e = true → R e.on (val e.on) w) →
      if Region.wanted o (yielded ops (frame val).tmps) then o.wp P (frame val) w (fun a' w' => ∃ v, a' = frame (upV val i v) ∧ R i v w' ∧ Below w.heap.size w w') Q
      else (frame val).put o.dst undef = frame (upV val i undef) ∧ R i undef w)
    (hend : ∀ val w, Below w0.heap.size w0 w → (∀ i, i < ops.size → R i (val i) w) → Q .normal (frame val) w) : (Code.region id ops true).wp P Q a0 w0 := by
  refine wp_region_any hm ?_
  refine wpAny_inv (fun listed a w => listed.size = ops.size ∧ ∃ val, a = frame val ∧ Below w0.heap.size w0 w ∧ ∀ i, i < ops.size → listed.getD i false = true → R i (val i) w) ?_ ?_ _ _ _ _ ?_ ?_
  · rintro listed a w ⟨hs, val, rfl, hb, hR⟩ i hi
    rw [mem_ready] at hi
    obtain ⟨h1, o, ho, h2⟩ := hi
    have hio : i < ops.size := (Array.getElem?_eq_some_iff.1 ho).1
    have key : ∀ v w', R i v w' → Below w.heap.size w w' → ((listed.setIfInBounds i true).size = ops.size ∧ ∃ val', frame (upV val i v) = frame val' ∧ Below w0.heap.size w0 w' ∧ ∀ j, j < ops.size → (listed.setIfInBounds i true).getD j false = true → R j (val' j) w') := fun v w' hv hw => by
      refine ⟨by simpa using hs, upV val i v, rfl, hb.trans (hw.mono hb.size), fun j hj hl => ?_⟩
      by_cases e : j = i
      · subst e
        rw [upV_self]
        exact hv
      · rw [upV_ne _ _ _ _ e]
        rw [getD_set_ne false (fun c => e c.symm)] at hl
        exact hstab _ _ _ _ (hR j hj hl) hw
    have hk := hop i o ho val w hb (fun e he hbd => hR e.on (by have := ahead_of hah ho e he hbd; omega) (h2 e he hbd))
    unfold wpOp
    rw [ho]
    simp only
    by_cases hw : Region.wanted o (yielded ops (frame val).tmps) = true
    · rw [if_pos hw] at hk ⊢
      exact .inl (Oper.wp_mono (fun a' w' ⟨v, e, hv, hbv⟩ => by rw [e]; exact key v w' hv hbv) hk)
    · rw [if_neg hw] at hk ⊢
      rw [hk.1]
      exact key undef w hk.2 (Below.refl _ _)
  · rintro listed a w ⟨hs, val, rfl, hb, hR⟩ hr
    exact hend val w hb (fun i hi => hR i hi (all_listed hah hs hr i hi))
  · unfold leftN
    exact Nat.le_trans (List.length_filter_le _ _) (by simp)
  · refine ⟨by simp, val0, h0, ⟨rfl, rfl, rfl, Nat.le_refl _, fun _ _ => rfl⟩, fun i hi hl => ?_⟩
    simp [Array.getD_eq_getD_getElem?, hi] at hl
/-- Each operation of a list, with its number. -/
def allOps (F : Nat → Oper → Prop) : Nat → List Oper → Prop
  | _, [] => True
  | k, o :: l => F k o ∧ allOps F (k + 1) l
theorem allOps_at {F : Nat → Oper → Prop} : ∀ (l : List Oper) (k j : Nat) (o : Oper), allOps F k l → l[j]? = some o → F (k + j) o
  | [], _, _, _, _, h => by simp at h
  | a :: l, k, 0, o, h, he => by simp at he; subst he; exact h.1
  | a :: l, k, j + 1, o, h, he => by
    have := allOps_at l (k + 1) j o h.2 (by simpa using he)
    have e : k + 1 + j = k + (j + 1) := by omega
    rwa [e] at this
/-- What is known of those that an operation waits for. -/
def depsAll (R : Nat → Value → World → Prop) (val : Nat → Value) (w : World) : List Edge → Prop
  | [] => True
  | e :: l => (Region.binds .any e = true → R e.on (val e.on) w) ∧ depsAll R val w l
theorem depsAll_of {R : Nat → Value → World → Prop} {val : Nat → Value} {w : World} : ∀ (l : List Edge), (∀ e ∈ l, Region.binds .any e = true → R e.on (val e.on) w) → depsAll R val w l
  | [], _ => trivial
  | e :: l, h => ⟨h e (by simp), depsAll_of l (fun x hx => h x (by simp [hx]))⟩
theorem depsAll_get {R : Nat → Value → World → Prop} {val : Nat → Value} {w : World} : ∀ {l : List Edge}, depsAll R val w l → ∀ j, (l.any fun e => Region.binds .any e && e.on == j) = true → R j (val j) w
  | [], _, j, h => by cases h
  | e :: l, hd, j, h => by
    simp only [List.any_cons, Bool.or_eq_true, Bool.and_eq_true, beq_iff_eq] at h
    rcases h with ⟨hb, rfl⟩ | h
    · exact hd.1 hb
    · exact depsAll_get hd.2 j (by simpa using h)
/-- What is asked of one operation. -/
def OpAsk (P : Program) (ops : Array Oper) (Q : Exit → Act → World → Prop) (w0 : World) (frame : (Nat → Value) → Act) (R : Nat → Value → World → Prop) (i : Nat) (o : Oper) : Prop :=
  ∀ val w, Below w0.heap.size w0 w → depsAll R val w o.after.toList →
      if Region.wanted o (yielded ops (frame val).tmps) then o.wp P (frame val) w (fun a' w' => ∃ v, a' = frame (upV val i v) ∧ R i v w' ∧ Below w.heap.size w w') Q
      else (frame val).put o.dst undef = frame (upV val i undef) ∧ R i undef w
/-- A region that draws its order, operation by operation. -/
theorem wp_region_ask {P : Program} {ops : Array Oper} {Q : Exit → Act → World → Prop} {id : Nat} {a0 : Act} {w0 : World} (hm : P.follows .mixedOrders = true) (hah : aheadB ops = true)
    (frame : (Nat → Value) → Act) (R : Nat → Value → World → Prop) (val0 : Nat → Value) (h0 : a0 = frame val0)
    (hstab : ∀ i v w w', R i v w → Below w.heap.size w w' → R i v w')
    (l : List Oper) (hl : ops.toList = l) (hop : allOps (OpAsk P ops Q w0 frame R) 0 l)
    (hend : ∀ val w, Below w0.heap.size w0 w → (∀ i, i < ops.size → R i (val i) w) → Q .normal (frame val) w) : (Code.region id ops true).wp P Q a0 w0 := by
  refine wp_region_inv hm hah frame R val0 h0 hstab (fun i o ho val w hb hd => ?_) hend
  have h1 := allOps_at l 0 i o hop (by rw [← hl]; simpa using ho)
  rw [Nat.zero_add] at h1
  exact h1 val w hb (depsAll_of _ (fun e he => hd e (by simpa using he)))
section
variable {P : Program} {ops : Array Oper} {Q : Exit → Act → World → Prop} {w0 : World} {frame : (Nat → Value) → Act} {R : Nat → Value → World → Prop} {i : Nat} {o : Oper}
/-- What an operation must come to. -/
def OpDoes (P : Program) (Q : Exit → Act → World → Prop) (R : Nat → Value → World → Prop) (i : Nat) (o : Oper) (A : Act) (w : World) : Prop :=
  ∀ K : Act → World → Prop, (∀ v w', R i v w' → Below w.heap.size w w' → K (A.put o.dst v) w') → o.wp P A w K Q
theorem ask_plain (hg : o.guard = none) (hput : ∀ val v, (frame val).put o.dst v = frame (upV val i v)) (h : ∀ val w, Below w0.heap.size w0 w → depsAll R val w o.after.toList → OpDoes P Q R i o (frame val) w) : OpAsk P ops Q w0 frame R i o := by
  intro val w hb hd
  rw [if_pos (by simp [Region.wanted, hg])]
  exact h val w hb hd _ (fun v w' hv hw => ⟨v, hput val v, hv, hw⟩)
theorem ask_yes (j : Nat) (b : Bool) (hg : o.guard = some (j, b)) (hput : ∀ val v, (frame val).put o.dst v = frame (upV val i v)) (hy : ∀ val w, depsAll R val w o.after.toList → yielded ops (frame val).tmps j = some b) (h : ∀ val w, Below w0.heap.size w0 w → depsAll R val w o.after.toList → OpDoes P Q R i o (frame val) w) : OpAsk P ops Q w0 frame R i o := by
  intro val w hb hd
  rw [if_pos (by simp [Region.wanted, hg, hy val w hd])]
  exact h val w hb hd _ (fun v w' hv hw => ⟨v, hput val v, hv, hw⟩)
theorem ask_no (j : Nat) (b c : Bool) (hg : o.guard = some (j, b)) (hbc : b ≠ c) (hput : ∀ val v, (frame val).put o.dst v = frame (upV val i v)) (hy : ∀ val w, depsAll R val w o.after.toList → yielded ops (frame val).tmps j = some c) (h : ∀ w, R i undef w) : OpAsk P ops Q w0 frame R i o := by
  intro val w hb hd
  rw [if_neg (by simp [Region.wanted, hg, hy val w hd]; exact fun e => hbc e.symm)]
  exact ⟨hput val undef, h w⟩
/-- One that yields a value and leaves the world. -/
theorem does_value {A : Act} {w : World} {v : Value} (h : (execOp A.eval o).run P w = .ok (.value v) w) (hR : R i v w) : OpDoes P Q R i o A w := by
  intro K hK
  unfold Oper.wp
  rw [h]
  exact hK v w hR (Below.refl _ _)
/-- One that yields a value in a world that has grown. -/
theorem does_grown {A : Act} {w w' : World} {v : Value} (h : (execOp A.eval o).run P w = .ok (.value v) w') (hR : R i v w') (hb : Below w.heap.size w w') : OpDoes P Q R i o A w := by
  intro K hK
  unfold Oper.wp
  rw [h]
  exact hK v w' hR hb
/-- A call. -/
theorem does_call {A : Act} {w : World} {f : FuncId} {args : Array Value} {C : Ending → World → Prop} (h : (execOp A.eval o).run P w = .ok (.enter f args) w) (hc : Calls P f args w C) (hR : ∀ e w', C e w' → ∃ v, e = .returned v ∧ R i v w' ∧ Below w.heap.size w w') : OpDoes P Q R i o A w := by
  intro K hK
  unfold Oper.wp
  rw [h]
  refine Calls.mono hc (fun e w' he => ?_)
  obtain ⟨v, rfl, hv, hb⟩ := hR e w' he
  exact hK v w' hv hb
end
end Go.Proofs.YtjobdfgcgnpppaaDoor
