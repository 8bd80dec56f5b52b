/-
  The document's Shortest.
  drawn: a graph of the program and one of the document, of the same edges.
  The law PathsBetween.
  The law PathsTell.
  Shortest walks are simple; sets of numbers as maps.
  The document's graphs: Edges.
  Plain: the labels of a graph that is drawn edge by edge.
  The document's graphs: Turn.
  Turn of a graph.
-/
import Derived.Test.YtdihbeffomibeaaGreatDoorY8
import Derived.Deep.CutRange
import Derived.Deep.RegionHeld3
import Derived.Deep.RegionWith
import Derived.Maps.Own
import Derived.Maps.OwnSet
import Derived.Maps.Views
import Derived.Test.YtdihbeffomibeaaGreatDoorY5
namespace Go.Proofs.YtdihbeffomibeaaGreatDoor
set_option linter.unusedVariables false
set_option linter.unusedSimpArgs false
open Go.RowKit

theorem Ints.mono {B B' : Nat} {w : World} {v : Value} {l : List Nat} (h : Ints B w v l) (hb : B' ≤ B) : Ints B' w v l :=
  ⟨h.1, h.2.imp id fun ⟨g, cap, cur, h1, h2, h3⟩ => ⟨g, cap, cur, h1, Nat.le_trans hb h2, h3⟩⟩
theorem Rk_of_far {E : Nat → Nat → Bool} {n : Nat} {S T : Nat} {d : Int} (h : IsFar E n S T d) (hS : S < n) (hT : T < n) : (d < 0 ∧ ∀ T' : Nat, (T : Int) = T' → ∀ r, r ≠ [] → ¬ Wl E n S r T') ∨ ∃ D : Nat, d = D ∧ Dst E n T S D := by
  rcases h with ⟨S', T', D, e1, h1, e2, h2, rfl, h3⟩ | ⟨rfl, h1⟩
  · obtain rfl : S = S' := by omega
    obtain rfl : T = T' := by omega
    exact .inr ⟨D, rfl, h3⟩
  · exact .inl ⟨by decide, fun T' e r hr hw => h1 S T' rfl hS e r hr hw⟩
/-- The distance of a node that has one is no greater than n. -/
theorem fits_dec (T : Nat) (dv : Nat → Nat) (e m : Nat) : Fits T dv (e + 1 + 1) m ↔ dI dv m = ((e : Int) + 1) := by
  unfold Fits dI
  by_cases h0 : dv m = 0
  · rw [if_pos h0]
    constructor
    · rintro (⟨h1, _⟩ | ⟨_, h1⟩) <;> omega
    · intro h; omega
  · rw [if_neg h0]
    constructor
    · rintro (⟨h1, _⟩ | ⟨_, h1⟩) <;> omega
    · intro h; exact .inr ⟨by omega, by omega⟩
theorem fits_one (T : Nat) (dv : Nat → Nat) (m : Nat) : Fits T dv (0 + 1) m ↔ m = T := by
  unfold Fits
  constructor
  · rintro (⟨_, h1⟩ | ⟨h1, _⟩)
    · exact h1
    · omega
  · intro h; exact .inl ⟨rfl, h⟩

set_option maxHeartbeats 8000000 in
set_option maxRecDepth 100000 in
theorem rshortest_ok (b n : Nat) (v : Value) (rw' : Nat → Nat) (L : Nat → Nat → Nat) (labels : Int) (S T D : Nat) (w : World) (h : RefG w b n v rw' L) (hS : S < n) (hT : T < n) (hD : Dst (edge L labels) n T S D) (hDn : D ≤ 300) :
    Calls Tryz.prog 26 #[.pointer (some ⟨b, 0, none⟩), .int .i64 labels, .int .i64 S, .int .i64 T] w fun e w' => (∃ v q, e = .returned v ∧ Best (edge L labels) n S T q ∧ Ints w.heap.size w' v (S :: q)) ∧ Below w.heap.size w w' := by
  have R := hid h
  have HD := hid hD
  have hn3 := h.bound
  have hD1 := hD.1
  have RD := hid (rdistance_is b n v rw' L labels S T w h)
  clear h hD
  go_enter Tryz.func26, Tryz.ntmps26
  go_wp2_with fail
  go_at_call 47
  refine RD.out.mono ?_
  rintro e w1 ⟨⟨d1, rfl, f1⟩, b1⟩
  obtain rfl : d1 = (D : Int) := by
    rcases Rk_of_far f1 hS hT with ⟨_, h1⟩ | ⟨D', rfl, h1⟩
    · exfalso
      obtain ⟨r, hr, hw⟩ := HD.out.2.1
      exact h1 T rfl r (by rintro rfl; simp at hr; omega) hw
    · rw [h1.uniq HD.out]
  have B1 := hid b1
  have hDi : ¬ ((D : Int) < 0) := by omega
  have hDi2 : (D : Int) ≤ 300 := by omega
  clear f1 b1 RD
  go_wp2_with fail
  go_at_call 48
  refine (distances_is b n v rw' L labels T w1 (R.out.later B1.out) hT).mono ?_
  rintro e w2 ⟨⟨ob, dv, rfl, -, l2, d2⟩, b2⟩
  have L2 := hid l2
  have D2 := hid d2
  have B2 := hid (B1.out.trans (b2.mono B1.out.size))
  have OBL : Hid (ob < w2.heap.size) := by obtain ⟨cur, h1, _⟩ := l2; exact blt h1
  clear l2 d2 b2 B1
  go_wp2_with fail
  have P0 : Hid (Ints w2.heap.size (w2.alloc (.cells #[.int .i64 S] 3)) (.slice (some ⟨w2.heap.size, 0, none⟩) 1 1) [S]) := ints_made w2.heap.size w2 [S] (Nat.le_refl _) (by simp [maxLen])
  go_loopg [9, 11, 12] D (fun g dval path node wr => ∃ (p : List Nat) (u d gb cap : Nat), dval = .int .i64 (d : Nat) ∧ d ≤ g ∧ d ≤ D ∧ path = .slice (some ⟨gb, 0, none⟩) (p.length + 1) cap ∧ node = .int .i64 (u : Nat) ∧ p.length ≤ D ∧ Aside (Gre (edge L labels) n S T D p u d) ∧ Aside (Ints w2.heap.size wr (.slice (some ⟨gb, 0, none⟩) (p.length + 1) cap) (S :: p)) ∧ Aside (Gro (fun k => w2.heap.size ≤ k) w2 wr))
  case atStart => exact ⟨[], S, D, w2.heap.size, 1, rfl, Nat.le_refl _, Nat.le_refl _, rfl, rfl, by simp, Gre.first hS HD.out, P0.out, Gro.of_below (below_box w2 _)⟩
  case round =>
    clear P0
    obtain ⟨p, u, d, gb, cap, rfl, hg, hdD, rfl, rfl, hpl, GR, PX, GX⟩ := hrel
    have BX : Hid (Below w.heap.size w wr) := B2.out.trans (GX.out.below w.heap.size (fun k hk => Nat.le_trans B2.out.size hk) B2.out.size)
    have hun := GR.out.hu
    by_cases hd0 : d = 0
    · subst hd0
      have BE := hid (GR.out.best HD.out)
      have IR := hid (PX.out.mono B2.out.size)
      have hneg : ¬ (((0 : Nat) : Int) > 0) := by decide
      clear GR PX GX
      go_wp2_with fail
      go_ret
      first | exact ⟨⟨_, p, rfl, BE.out, IR.out⟩, BX.out⟩ | exact ⟨⟨_, rfl, p, BE.out, IR.out⟩, BX.out⟩
    · obtain ⟨e, rfl⟩ : ∃ e, d = e + 1 := ⟨d - 1, by omega⟩
      have hpos : (0 : Int) < ((e + 1 : Nat) : Int) := by omega
      have L3 := hid (L2.out.gro GX.out (by have := OBL.out; omega))
      go_wp2_with fail
      go_at_call 49
      refine (rout_ok b n v rw' L u labels wr (R.out.later BX.out) hun).mono ?_
      rintro e4 w4 ⟨⟨v4, rfl, i4⟩, b4⟩
      obtain ⟨ao, cap4, o, rfl, ro, -⟩ := i4.rowO (HQ := 0) (Nat.zero_le _)
      have RO := hid ro
      have L4 := hid (L3.out.later b4)
      have P4 := hid (PX.out.later b4)
      have G4 := hid (GX.out.trans (Gro.of_below b4))
      have B4 := hid (BX.out.trans (b4.mono BX.out.size))
      have hll := lst_le (endsF L u labels 4) n
      have hlli : ((lst (endsF L u labels 4) n).length : Int) ≤ 300 := by omega
      clear i4 ro b4 PX GX BX L3
      go_wp2_with fail
      go_loopg [12, 38] (lst (endsF L u labels 4) n).length (fun g2 node i wq => ∃ (j t : Nat), j ≤ (lst (endsF L u labels 4) n).length ∧ (lst (endsF L u labels 4) n).length - j ≤ g2 ∧ i = .int .i64 j ∧ node = .int .i64 (u : Nat) ∧ t ≤ n ∧ Aside (lst (endsF L u labels 4) t = (lst (endsF L u labels 4) n).take j) ∧ Aside (∀ x, x < t → edge L labels u x = true → ¬ Fits T dv (e + 1) x) ∧ w4 = wq)
      case atStart => exact ⟨0, 0, Nat.zero_le _, by omega, rfl, rfl, Nat.zero_le _, by show lst _ 0 = List.take 0 _; simp [lst], fun x hx => by omega, rfl⟩
      case round =>
        obtain ⟨j, t, hj, hg2, rfl, rfl, htn, LT, NF, rfl⟩ := hrel
        by_cases hjl : j < (lst (endsF L u labels 4) n).length
        · have hjli : (j : Int) < (lst (endsF L u labels 4) n).length := by omega
          obtain ⟨rfl, -, cur, hcur, hcj⟩ := RO.out j hjl
          have cj : w4.cell? ⟨o, j, none⟩ = some (.int .i64 ((lst (endsF L u labels 4) n).getD j 0)) := (Lib.cell_of_heap hcur j).trans hcj
          obtain ⟨m1, m2, m3, m4, m5⟩ := lst_next (endsF L u labels 4) n t j htn LT.out hjl
          generalize (lst (endsF L u labels 4) n).getD j 0 = m at *
          have M1 := hid m1
          have M3 := hid m3
          have M4 := hid m4
          have M5 := hid m5
          obtain ⟨cm, fm⟩ := L4.out.cell m m2
          have hmi : (m : Int) < n := by omega
          have NF2 : Hid (¬ Fits T dv (e + 1) m → ∀ x, x < m + 1 → edge L labels u x = true → ¬ Fits T dv (e + 1) x) := fun hm x hx hE hf => by
            by_cases h1 : x < t
            · exact NF.out x h1 hE hf
            · by_cases h2 : x = m
              · subst h2; exact hm hf
              · have := M4.out x (by omega) (by omega)
                have hE' : endsF L u labels 4 x = true := hE
                rw [this] at hE'
                cases hE'
          have NF3 : Hid (∀ x, x < m → edge L labels u x = true → ¬ Fits T dv (e + 1) x) := fun x hx hE hf => by
            by_cases h1 : x < t
            · exact NF.out x h1 hE hf
            · have := M4.out x (by omega) hx
              have hE' : endsF L u labels 4 x = true := hE
              rw [this] at hE'
              cases hE'
          clear m1 m3 m4 m5 hcur hcj LT NF
          have hpD : p.length < D := by have := GR.out.len; omega
          have hszp : p.length ≤ 300 := by omega
          have PA : Hid (Ints w2.heap.size (w4.alloc (.cells #[.int .i64 m] 3)) (.slice (some ⟨gb, 0, none⟩) (p.length + 1) cap) (S :: p)) := P4.out.later (below_box _ _)
          have CA : Hid ((w4.alloc (.cells #[.int .i64 m] 3)).cell? ⟨w4.heap.size, 0, none⟩ = some (.int .i64 m)) := new_cells w4 #[.int .i64 m] 3 0
          have GA : Hid (Gro (fun k => w2.heap.size ≤ k) w2 (w4.alloc (.cells #[.int .i64 m] 3))) := G4.out.trans (Gro.of_below (below_box _ _))
          have GS : Hid (Fits T dv (e + 1) m → Gre (edge L labels) n S T D (p ++ [m]) m e) := fun hf => GR.out.step D2.out m2 M3.out hf NF3.out
          clear NF3 GR P4 M1 M4
          cases e with
          | zero =>
            by_cases hmT : m = T
            · subst hmT
              have GN := hid (GS.out ((fits_one m dv m).2 rfl))
              have hmm : ((m : Int) == (m : Int)) = true := by simp
              clear GS NF2 cm fm
              go_wp2_with (at_builtin; refine wpList_append_ints _ rfl _ _ rfl w2.heap.size (by have := G4.out.size; simp; omega) _ (S :: p) rfl PA.out w4.heap.size m 1 rfl CA.out (by simp; omega) ?_; intro g5 cap5 w5 q1 q2; have Q1 := hid q1; have Q2 := hid (GA.out.trans q2); clear q1 q2)
              go_roundg (0)
              · exact ⟨p ++ [m], m, 0, g5, cap5, by go_num, by omega, by omega, by simp, rfl, by simp; omega, GN.out, by show Ints _ _ _ _; have := Q1.out; simpa using this, Q2.out⟩
              · omega
            · have hne : ((m : Int) == (T : Int)) = false := by simp; omega
              have hne2 : ¬ ((m : Int) = (T : Int)) := by omega
              have NFX := hid (NF2.out (fun hf => hmT ((fits_one T dv m).1 hf)))
              clear GS NF2 cm fm
              go_wp2_with fail
              go_roundg ((lst (endsF L u labels 4) n).length - (j + 1))
              · exact ⟨j + 1, m + 1, by omega, by omega, by go_num, rfl, by omega, M5.out, NFX.out, rfl⟩
              · omega
          | succ e =>
            have hgt : (1 : Int) < (e : Int) + 1 + 1 := by omega
            have hn1 : ¬ ((e : Int) + 1 + 1 = 1) := by omega
            have hei : (e : Int) + 1 + 1 ≤ 300 := by omega
            by_cases hx : dI dv m = (e : Int) + 1
            · have GN := hid (GS.out ((fits_dec T dv e m).2 hx))
              rw [hx] at cm
              have hxx : ((e : Int) + 1 == (e : Int) + 1) = true := by simp
              clear GS NF2 fm hx
              go_wp2_with (at_builtin; refine wpList_append_ints _ rfl _ _ rfl w2.heap.size (by have := G4.out.size; simp; omega) _ (S :: p) rfl PA.out w4.heap.size m 1 rfl CA.out (by simp; omega) ?_; intro g5 cap5 w5 q1 q2; have Q1 := hid q1; have Q2 := hid (GA.out.trans q2); clear q1 q2)
              go_roundg (e + 1)
              · exact ⟨p ++ [m], m, e + 1, g5, cap5, by go_num, by omega, by omega, by simp, rfl, by simp; omega, GN.out, by show Ints _ _ _ _; have := Q1.out; simpa using this, Q2.out⟩
              · omega
            · have NFX := hid (NF2.out (fun hf => hx ((fits_dec T dv e m).1 hf)))
              generalize dI dv m = X at *
              have hxf : (X == (e : Int) + 1) = false := by simp; exact hx
              clear GS NF2 fm
              go_wp2_with fail
              go_roundg ((lst (endsF L u labels 4) n).length - (j + 1))
              · exact ⟨j + 1, m + 1, by omega, by omega, by go_num, rfl, by omega, M5.out, NFX.out, rfl⟩
              · omega
        · exfalso
          have hE := lst_end (endsF L u labels 4) n t j htn LT.out hjl
          obtain ⟨m, h1, h2, h3⟩ := GR.out.fits D2.out
          by_cases hmt : m < t
          · exact NF.out m hmt h2 h3
          · have := hE m (by omega) h1
            have h2' : endsF L u labels 4 m = true := h2
            rw [this] at h2'
            cases h2'
end Go.Proofs.YtdihbeffomibeaaGreatDoor

namespace Go.Proofs.YtdihbeffomibeaaGreatDoor
set_option linter.unusedVariables false
set_option linter.unusedSimpArgs false
open Go.RowKit

def BothD (H : Nat) (w : World) (b n b2 : Nat) : Prop :=
  ∃ r bk ck v rw' L, Graph w b n r bk ck L ∧ RefG w b2 n v rw' L ∧ (∀ k, k < 4 * n → H ≤ ck k) ∧ (∀ i, i < n → H ≤ rw' i) ∧ ∀ f, L f f = 0
theorem BothD.later {H : Nat} {w w' : World} {b n b2 : Nat} (h : BothD H w b n b2) (hb : Below w.heap.size w w') : BothD H w' b n b2 := by
  obtain ⟨r, bk, ck, v, rw', L, h1, h2, h3⟩ := h
  exact ⟨r, bk, ck, v, rw', L, h1.later hb, h2.later hb, h3⟩
theorem addL_diag (L : Nat → Nat → Nat) (F T X : Nat) (hne : F ≠ T) (h : ∀ f, L f f = 0) (f : Nat) : addL L F T X 4 f f = 0 := by
  unfold addL
  rw [if_neg (by rintro ⟨rfl, rfl⟩; exact hne rfl)]
  exact h f
end Go.Proofs.YtdihbeffomibeaaGreatDoor
namespace Go.Proofs.YtdihbeffomibeaaGreatDoor
set_option linter.unusedVariables false
set_option linter.unusedSimpArgs false
open Go.RowKit

theorem far_between {E : Nat → Nat → Bool} {n : Nat} {f y t a b c : Int} (ha : IsFar E n f y a) (hb : IsFar E n y t b) (hc : IsFar E n f t c) : a < 0 ∨ (0 ≤ a ∧ b < 0) ∨ (0 ≤ a ∧ 0 ≤ b ∧ 0 < c ∧ c ≤ a + b) := by
  rcases ha with ⟨S, M, D1, rfl, h1, rfl, h2, rfl, h3⟩ | ⟨rfl, h1⟩
  · rcases hb with ⟨M', T, D2, e1, k1, rfl, k2, rfl, k3⟩ | ⟨rfl, k1⟩
    · obtain rfl : M = M' := by omega
      obtain ⟨r1, l1, w1⟩ := h3.2.1
      obtain ⟨r2, l2, w2⟩ := k3.2.1
      have hw : Wl E n S (r1 ++ r2) T := Wl.append.2 ⟨M, w1, w2⟩
      have hl : (r1 ++ r2).length = D1 + D2 := by rw [List.length_append, l1, l2]
      have p1 := h3.1
      rcases hc with ⟨S', T', D3, e2, q1, e3, q2, rfl, q3⟩ | ⟨rfl, q1⟩
      · obtain rfl : S = S' := by omega
        obtain rfl : T = T' := by omega
        have := q3.2.2 (D1 + D2) (by omega) ⟨_, hl, hw⟩
        have := q3.1
        right; right
        omega
      · exact absurd hw (q1 S T rfl h1 rfl _ (by rintro e; rw [e] at hl; simp at hl; omega))
    · exact .inr (.inl ⟨by omega, by decide⟩)
  · exact .inl (by decide)
end Go.Proofs.YtdihbeffomibeaaGreatDoor
namespace Go.Proofs.YtdihbeffomibeaaGreatDoor
set_option linter.unusedVariables false
set_option linter.unusedSimpArgs false
open Go.RowKit

set_option maxHeartbeats 4000000 in
set_option maxRecDepth 100000 in
theorem rshortest_no (b n : Nat) (v : Value) (rw' : Nat → Nat) (L : Nat → Nat → Nat) (labels f t : Int) (w : World) (h : RefG w b n v rw' L) (hf : IsFar (edge L labels) n f t (-1)) :
    Calls Tryz.prog 26 #[.pointer (some ⟨b, 0, none⟩), .int .i64 labels, .int .i64 f, .int .i64 t] w fun e w' => e = .returned (.slice none 0 0) ∧ Below w.heap.size w w' := by
  have HF := hid hf
  have RD := hid (rdistance_is b n v rw' L labels f t w h)
  clear h hf
  go_enter Tryz.func26, Tryz.ntmps26
  go_wp2_with fail
  go_at_call 47
  refine RD.out.mono ?_
  rintro e w1 ⟨⟨d1, rfl, f1⟩, b1⟩
  obtain rfl : d1 = -1 := f1.uniq HF.out
  have B1 := hid b1
  clear f1 b1 RD HF
  go_wp2_with fail
  go_ret
  exact ⟨rfl, B1.out⟩
/-- What both tell of a path: the same list, or none. -/
def Alike (E : Nat → Nat → Bool) (n : Nat) (f t : Int) (l : List Nat) : Prop :=
  (∃ (S T : Nat) (q : List Nat), f = S ∧ S < n ∧ t = T ∧ T < n ∧ Best E n S T q ∧ q.length ≤ n ∧ l = S :: q) ∨ (l = [] ∧ IsFar E n f t (-1))
theorem shortest_any (b n r : Nat) (bk ck : Nat → Nat) (L : Nat → Nat → Nat) (labels f t : Int) (w : World) (h : Graph w b n r bk ck L) (hT : Tab w) :
    Calls Tryz.prog 43 #[.pointer (some ⟨b, 0, none⟩), .int .i64 labels, .int .i64 f, .int .i64 t] w fun e w' => (∃ v l, e = .returned v ∧ Ints w.heap.size w' v l ∧ Alike (edge L labels) n f t l) ∧ Below w.heap.size w w' := by
  by_cases hs : f < 0 ∨ (n : Int) ≤ f
  · refine (shortest_off b n r f bk ck L labels t w h hs hT).mono ?_
    rintro e w' ⟨rfl, b1⟩
    exact ⟨⟨_, [], rfl, World.ownsRow_nil _ _ _ _, .inr ⟨rfl, .inr ⟨rfl, fun S T e h1 => by omega⟩⟩⟩, b1⟩
  · obtain ⟨S, rfl⟩ : ∃ S : Nat, f = S := ⟨f.toNat, by omega⟩
    have hS : S < n := by omega
    refine (shortest_is b n r S bk ck L labels t w h hS hT).mono ?_
    rintro e w' ⟨⟨v, rfl, ⟨T, q, rfl, h1, h2, h3, h4⟩ | ⟨rfl, h1⟩⟩, b1⟩
    · exact ⟨⟨v, S :: q, rfl, h4, .inl ⟨S, T, q, rfl, hS, rfl, h1, h2, h3, rfl⟩⟩, b1⟩
    · exact ⟨⟨_, [], rfl, World.ownsRow_nil _ _ _ _, .inr ⟨rfl, .inr ⟨rfl, fun S' T e1 h2 e2 q hq hw => h1 T e2 q hq (by rw [show S = S' by omega]; exact hw)⟩⟩⟩, b1⟩
theorem rshortest_any (b n : Nat) (v : Value) (rw' : Nat → Nat) (L : Nat → Nat → Nat) (labels f t : Int) (l : List Nat) (w : World) (h : RefG w b n v rw' L) (ha : Alike (edge L labels) n f t l) :
    Calls Tryz.prog 26 #[.pointer (some ⟨b, 0, none⟩), .int .i64 labels, .int .i64 f, .int .i64 t] w fun e w' => (∃ v, e = .returned v ∧ Ints w.heap.size w' v l) ∧ Below w.heap.size w w' := by
  rcases ha with ⟨S, T, q, rfl, h1, rfl, h2, h3, h4, rfl⟩ | ⟨rfl, h1⟩
  · refine (rshortest_ok b n v rw' L labels S T q.length w h h1 h2 (h3.dst h1) (by have := h.bound; omega)).mono ?_
    rintro e w' ⟨⟨v', q', rfl, k1, k2⟩, b1⟩
    obtain rfl := h3.uniq h1 k1
    exact ⟨⟨v', rfl, k2⟩, b1⟩
  · refine (rshortest_no b n v rw' L labels f t w h h1).mono ?_
    rintro e w' ⟨rfl, b1⟩
    exact ⟨⟨_, rfl, World.ownsRow_nil _ _ _ _⟩, b1⟩
theorem Alike.short {E : Nat → Nat → Bool} {n : Nat} {f t : Int} {l : List Nat} (h : Alike E n f t l) : l.length ≤ n + 1 := by
  rcases h with ⟨S, T, q, _, _, _, _, _, h4, rfl⟩ | ⟨rfl, _⟩
  · simp; omega
  · simp
end Go.Proofs.YtdihbeffomibeaaGreatDoor
namespace Go.Proofs.YtdihbeffomibeaaGreatDoor
set_option linter.unusedVariables false
set_option linter.unusedSimpArgs false
open Go.RowKit Go.Maps

theorem Wl.cut {E : Nat → Nat → Bool} {n T : Nat} : ∀ (q : List Nat) (s : Nat), Wl E n s q T → ∀ i, i < q.length → Wl E n s (q.take (i + 1)) (q.getD i 0) ∧ Wl E n (q.getD i 0) (q.drop (i + 1)) T := by
  intro q
  induction q with
  | nil => intro s _ i hi; simp at hi
  | cons m r ih =>
    rintro s ⟨h1, h2, h3⟩ i hi
    cases i with
    | zero => exact ⟨⟨h1, h2, rfl⟩, h3⟩
    | succ i =>
      obtain ⟨k1, k2⟩ := ih m h3 i (by simpa using hi)
      have e : (m :: r).getD (i + 1) 0 = r.getD i 0 := by simp [List.getD]
      rw [e]
      exact ⟨⟨h1, h2, k1⟩, k2⟩
theorem Wl.along {E : Nat → Nat → Bool} {n T : Nat} : ∀ (q : List Nat) (s : Nat), s < n → Wl E n s q T → (∀ i, i < q.length → E ((s :: q).getD i 0) (q.getD i 0) = true ∧ q.getD i 0 < n ∧ (s :: q).getD i 0 < n) ∧ (s :: q).getD q.length 0 = T := by
  intro q
  induction q with
  | nil => intro s hs h; exact ⟨fun i hi => by simp at hi, h⟩
  | cons m r ih =>
    rintro s hs ⟨h1, h2, h3⟩
    obtain ⟨k1, k2⟩ := ih m h2 h3
    have e : ∀ i, (s :: m :: r).getD (i + 1) 0 = (m :: r).getD i 0 := fun i => by simp [List.getD]
    constructor
    · intro i hi
      cases i with
      | zero => exact ⟨h1, h2, hs⟩
      | succ i =>
        have e2 : (m :: r).getD (i + 1) 0 = r.getD i 0 := by simp [List.getD]
        rw [e, e2]
        exact k1 i (by simpa using hi)
    · rw [List.length_cons, e]
      exact k2
theorem Best.simple {E : Nat → Nat → Bool} {n s T : Nat} {q : List Nat} (hs : s < n) (h : Best E n s T q) : (∀ i j, i < j → j < q.length → q.getD i 0 ≠ q.getD j 0) ∧ (s ≠ T → ∀ j, j < q.length → q.getD j 0 ≠ s) := by
  have hd := h.dst hs
  constructor
  · intro i j hij hj e
    obtain ⟨a1, _⟩ := Wl.cut q s h.2.1 i (by omega)
    obtain ⟨_, b2⟩ := Wl.cut q s h.2.1 j hj
    rw [← e] at b2
    have hw : Wl E n s (q.take (i + 1) ++ q.drop (j + 1)) T := Wl.append.2 ⟨_, a1, b2⟩
    have hl : (q.take (i + 1) ++ q.drop (j + 1)).length = i + 1 + (q.length - (j + 1)) := by simp; omega
    have := hd.2.2 (i + 1 + (q.length - (j + 1))) (by omega) ⟨_, hl, hw⟩
    omega
  · intro hne j hj e
    obtain ⟨_, b2⟩ := Wl.cut q s h.2.1 j hj
    rw [e] at b2
    have hl : (q.drop (j + 1)).length = q.length - (j + 1) := by simp
    by_cases h0 : q.length - (j + 1) = 0
    · have e0 : q.drop (j + 1) = [] := List.length_eq_zero_iff.1 (by omega)
      rw [e0] at b2
      exact hne b2
    · have := hd.2.2 (q.length - (j + 1)) (by omega) ⟨_, hl, b2⟩
      omega

theorem keys3 : Keyed Tryz.prog 3 := int_keyed Tryz.underlying3
theorem zero4 (w : World) : (zeroValue 4).run Tryz.prog w = .ok (.bool false) w := by kernel_rfl
/-- A map of numbers: which are in it. -/
def MB (w : World) (mb k : Nat) (S : Int → Bool) : Prop := ∃ D : DataW Unit, w.ownsMap Tryz.prog 3 (plainElem Tryz.prog 4) mb k D ∧ ∀ x : Int, D.atKey (.int .i64 x) (.lit (.bool false)) = .lit (.bool (S x))
set_option maxRecDepth 100000 in
theorem plain_bool (x : Bool) : plainElem (H := Unit) Tryz.prog 4 (.bool x) = some (.lit (.bool x), []) := by
  unfold plainElem
  rw [Tryz.underlying4]
set_option maxRecDepth 100000 in
theorem plain_bool_inv {v : Value} {d : DataW Unit} {ps : List MemPlace} (h : plainElem Tryz.prog 4 v = some (d, ps)) : ∃ x, v = .bool x ∧ d = .lit (.bool x) := by
  unfold plainElem at h
  rw [Tryz.underlying4] at h
  cases v <;> simp at h
  exact ⟨_, rfl, h.1.symm⟩
theorem MB.made (w : World) : MB (w.alloc (.map #[] 0)) w.heap.size 0 (fun _ => false) := ⟨_, World.ownsMap_made _ _ _ _, fun x => rfl⟩
theorem MB.later {w w' : World} {mb k : Nat} {S : Int → Bool} (h : MB w mb k S) (hb : Below w.heap.size w w') : MB w' mb k S := by
  obtain ⟨D, ⟨es, clock, h1, h2, h3, h4⟩, h5⟩ := h
  exact ⟨D, ⟨es, clock, (hb.block mb (blt h1)).trans h1, h2, h3, h4⟩, h5⟩
theorem wf_small (x : Nat) (hx : x ≤ 300) : (Lit.int .i64 (x : Int)).wf = true := by
  simp [Lit.wf, IntKind.min, IntKind.max, IntKind.signed, IntKind.bits]
  omega
end Go.Proofs.YtdihbeffomibeaaGreatDoor
namespace Go.Proofs.YtdihbeffomibeaaGreatDoor
set_option linter.unusedVariables false
set_option linter.unusedSimpArgs false
open Go.RowKit

theorem and_15 : ∀ x : Nat, x < 16 → x &&& 15 = x := by decide +kernel
theorem ends_15 (L : Nat → Nat → Nat) (f t : Nat) (hx : L f t < 16) : ((L f t : Int) == 0) = !endsF L f 15 4 t := by
  have h := ends_and L f t 15 hx
  rw [i64_and_low _ hx] at h
  have e : ((15 : Int) % 16).toNat = 15 := by decide
  rw [e, and_15 _ hx] at h
  exact h
theorem rowE_one (L : Nat → Nat → Nat) (f : Nat) (F : Nat → Bool) (j : Nat) : rowE L f F (j + 1) = if F j then rowE L f F j ++ [(f, j, L f j)] else rowE L f F j := by
  unfold rowE
  rw [lst_one]
  split <;> simp

set_option maxHeartbeats 8000000 in
set_option maxRecDepth 200000 in
theorem redges_is (b n : Nat) (v : Value) (rw' : Nat → Nat) (L : Nat → Nat → Nat) (w : World) (h : RefG w b n v rw' L) :
    Calls Tryz.prog 25 #[.pointer (some ⟨b, 0, none⟩)] w fun e w' => (∃ u, e = .returned u ∧ EdgesIn w.heap.size w' u (allE L n n)) ∧ Below w.heap.size w w' := by
  obtain ⟨i0, hi, hz'⟩ := Option.map_eq_some_iff.1 Tryz.info80
  simp only [Prod.mk.injEq] at hz'
  obtain ⟨hz0, hz1, hz2⟩ := hz'
  have HI := hid hi
  have HZ0 := hid hz0
  have HZ1 := hid hz1
  have HZ2 := hid hz2
  clear hi hz0 hz1 hz2
  have R := hid h
  have hn3 := h.bound
  have hni : (n : Int) ≤ 300 := by omega
  obtain ⟨ao, cap, hv, hr⟩ := h.form
  have c0 := h.c0
  rw [hv] at c0
  have HR := hid hr
  have C0 := hid c0
  clear h hr hv
  go_enter Tryz.func25, Tryz.ntmps25
  go_wp2_with fail
  clear c0
  go_loopg [3, 4, 12] n (fun g l _ i wr => ∃ k : Nat, k ≤ n ∧ n - k ≤ g ∧ i = .int .i64 k ∧ Aside (EdgesIn w.heap.size wr l (allE L n k)) ∧ Aside (Below w.heap.size w wr))
  case atStart => exact ⟨0, Nat.zero_le _, by omega, rfl, World.ownsRow_nil _ _ _ _, Below.refl _ _⟩
  case round =>
    obtain ⟨k, hk, hg, rfl, EX, BX⟩ := hrel
    by_cases hlt : k < n
    · have hlti : (k : Int) < n := by omega
      obtain ⟨RR, rfl, d1⟩ := HR.out k hlt
      have hd1 : wr.cell? ⟨RR, k, none⟩ = some (.slice (some ⟨rw' k, 0, none⟩) n n) := (BX.out.cell (p := ⟨RR, k, none⟩) (World.block_lt_of_cell? _ _ d1)).trans d1
      have hc0 : wr.cell? ⟨b, 0, none⟩ = some (.slice (some ⟨RR, 0, none⟩) n cap) := (BX.out.cell (p := ⟨b, 0, none⟩) (World.block_lt_of_cell? _ _ C0.out)).trans C0.out
      have HA := hid (allE_succ L n k)
      have HLEN : (allE L n k).length ≤ 90000 := by
        have h1 := allE_len L n k
        have h2 : k * n ≤ 300 * 300 := Nat.mul_le_mul (by omega) hn3
        omega
      have RX := hid (R.out.later BX.out)
      clear d1
      go_wp2_with fail
      clear hd1 hc0
      generalize wr = wo at *
      obtain ⟨F, hF⟩ : ∃ F, endsF L k 15 4 = F := ⟨_, rfl⟩
      have HF := hid (fun t => by have := ends_15 L k t (R.out.small k t); rw [hF] at this; exact this)
      rw [hF] at HA
      clear hF
      go_loopg [3, 5, 6, 23] n (fun g l _ _ i wr2 => ∃ j : Nat, j ≤ n ∧ n - j ≤ g ∧ i = .int .i64 j ∧ Aside (EdgesIn w.heap.size wr2 l (allE L n k ++ rowE L k F j)) ∧ Aside (Below w.heap.size w wr2))
      case atStart => exact ⟨0, Nat.zero_le _, by omega, rfl, (by show EdgesIn _ _ _ (allE L n k ++ rowE L k F 0); simpa [rowE, lst] using EX.out), BX.out⟩
      case round =>
        clear EX RX
        obtain ⟨j, hj, hg2, rfl, EY, BY⟩ := hrel
        by_cases hjl : j < n
        · have hjli : (j : Int) < n := by omega
          have cx := ((R.out.later BY.out).cell k j hlt hjl).1
          have q := HF.out j
          have HO := hid (rowE_one L k F j)
          obtain ⟨y, hy⟩ : ∃ y, L k j = y := ⟨_, rfl⟩
          rw [hy] at cx q HO
          clear hy
          cases hfk : F j
          · rw [hfk] at q HO
            simp only [Bool.not_false] at q
            clear hfk
            go_wp2_with fail
            go_roundg (n - (j + 1))
            · exact ⟨j + 1, by omega, by omega, by go_num, (by show EdgesIn _ _ _ _; have h := HO.out; simp at h; rw [h]; exact EY.out), BY.out⟩
            · omega
          · rw [hfk] at q HO
            simp only [Bool.not_true] at q
            clear hfk
            have HLE := hid (rowE_len L k F j)
            have hsz := hid BY.out.size
            obtain ⟨M, hM⟩ : ∃ M, (allE L n k ++ rowE L k F j).length = M := ⟨_, rfl⟩
            have O3r : Hid (wr.ownsRow w.heap.size 61 3 u3 M (edgesV (allE L n k ++ rowE L k F j))) := by rw [← hM]; exact EY.out
            have hMb : M ≤ 90300 := by have := HLE.out; rw [← hM, List.length_append]; omega
            have HM := hid hM
            clear hM
            go_wp2_with (at_builtin; refine wpList_append_lies _ rfl _ _ 58 rfl w.heap.size 61 i0 _ 3 24 Tryz.underlying58 HI.out HZ0.out HZ1.out HZ2.out rfl (by decide) u3 M (edgesV (allE L n k ++ rowE L k F j)) rfl ?hown ⟨wr.heap.size, 0, none⟩ 1 1 (edgeV (k, j, y)) rfl rfl ?hnews ?hone (by decide) ?h63 ?hby ?hbase (wr.heap.size + 1) ?hH ?_)
            case hown => exact World.ownsRow.alloc O3r.out _
            case hnews => exact fun _ _ h => h
            case hone => intro u hu; unfold edgeV at hu; simp at hu; rcases hu with rfl | rfl | rfl <;> rfl
            case h63 => unfold maxLen; omega
            case hby => omega
            case hbase => have := hsz.out; simp; omega
            intro g cap' w4 hown4 hgrow hat hglt
            have B4 : Hid (Below w.heap.size w w4) := BY.out.trans (((below_box wr _).mono hsz.out).grown hgrow (by have := hsz.out; simp; omega) (fun x hx => (O3r.out.lt x hx).1))
            have O4 : Hid (EdgesIn w.heap.size w4 (.slice (some ⟨g, 0, none⟩) (M + 1) cap') (allE L n k ++ rowE L k F (j + 1))) := by
              have h := HO.out
              simp at h
              have e0 : allE L n k ++ rowE L k F (j + 1) = (allE L n k ++ rowE L k F j) ++ [(k, j, y)] := by rw [h, List.append_assoc]
              have e1 : (allE L n k ++ rowE L k F (j + 1)).length = M + 1 := by rw [e0, List.length_append, HM.out]; rfl
              show EdgesIn w.heap.size w4 _ _
              unfold EdgesIn
              rw [e1, e0, edgesV_snoc]
              exact hown4
            clear hown4 hgrow hat hglt
            go_wp2_with fail
            go_roundg (n - (j + 1))
            · exact ⟨j + 1, by omega, by omega, by go_num, O4.out, B4.out⟩
            · omega
        · have hjli : ¬ (j : Int) < n := by omega
          have ej : n = j := by omega
          have EZ : Hid (EdgesIn w.heap.size wr u3 (allE L n (k + 1))) := by
            rw [HA.out]
            have h := EY.out
            rw [← ej] at h
            exact h
          clear ej
          go_wp2_with fail
          go_roundg (n - (k + 1))
          · exact ⟨k + 1, by omega, by omega, by go_num, EZ.out, BY.out⟩
          · omega
    · have hlti : ¬ (k : Int) < n := by omega
      have ek : n = k := by omega
      subst ek
      go_wp2_with fail
      go_ret
      exact ⟨⟨_, rfl, EX.out⟩, BX.out⟩
end Go.Proofs.YtdihbeffomibeaaGreatDoor
namespace Go.Proofs.YtdihbeffomibeaaGreatDoor
set_option linter.unusedVariables false
set_option linter.unusedSimpArgs false
open Go.RowKit

set_option maxHeartbeats 2000000 in
set_option maxRecDepth 100000 in
theorem turnC (f t x : Int) (w : World) :
    Calls Tryz.prog 60 #[.agg #[.int .i64 f, .int .i64 t, .int .i64 x]] w fun e w' => e = .returned (.agg #[.int .i64 t, .int .i64 f, .int .i64 x]) ∧ Below w.heap.size w w' := by
  go_enter Tryz.func60, Tryz.ntmps60
  go_wp2_with fail
  refine bodyPost_ret (v := .agg #[.int .i64 t, .int .i64 f, .int .i64 x]) (by simp [results, Tryz.results53, go_sem]) rfl ⟨rfl, ?_⟩
  exact (below_box w _).alloc (by simp) _

/-- An edge is added, or refused. -/
def stepE (n : Nat) (L : Nat → Nat → Nat) (e : Nat × Nat × Nat) : Nat → Nat → Nat := if addWhy n e.1 e.2.1 e.2.2 = 0 then addL L e.1 e.2.1 e.2.2 4 else L
theorem step_bit (n : Nat) (L : Nat → Nat → Nat) (e : Nat × Nat × Nat) (f t i : Nat) :
    (stepE n L e f t).testBit i = true ↔ (L f t).testBit i = true ∨ (addWhy n e.1 e.2.1 e.2.2 = 0 ∧ e.1 = f ∧ e.2.1 = t ∧ i < 4 ∧ e.2.2.testBit i = true) := by
  unfold stepE
  by_cases h : addWhy n e.1 e.2.1 e.2.2 = 0
  · rw [if_pos h, addL_bit]
    simp only [h, true_and, Bool.or_eq_true, Bool.and_eq_true, decide_eq_true_eq]
    constructor
    · rintro (a | ⟨⟨b, c, d⟩, x⟩)
      · exact .inl a
      · exact .inr ⟨b.symm, c.symm, d, x⟩
    · rintro (a | ⟨b, c, d, x⟩)
      · exact .inl a
      · exact .inr ⟨⟨b.symm, c.symm, d⟩, x⟩
  · rw [if_neg h]
    simp [h]
theorem fold_bit (n : Nat) (l : List (Nat × Nat × Nat)) (L : Nat → Nat → Nat) (f t i : Nat) :
    ((l.foldl (stepE n) L) f t).testBit i = true ↔ (L f t).testBit i = true ∨ ∃ e, e ∈ l ∧ addWhy n e.1 e.2.1 e.2.2 = 0 ∧ e.1 = f ∧ e.2.1 = t ∧ i < 4 ∧ e.2.2.testBit i = true := by
  induction l generalizing L with
  | nil => simp
  | cons e l ih =>
    rw [List.foldl_cons, ih, step_bit]
    constructor
    · rintro ((a | b) | ⟨e', m, b⟩)
      · exact .inl a
      · exact .inr ⟨e, List.mem_cons_self .., b⟩
      · exact .inr ⟨e', List.mem_cons_of_mem _ m, b⟩
    · rintro (a | ⟨e', m, b⟩)
      · exact .inl (.inl a)
      · rcases List.mem_cons.1 m with rfl | m
        · exact .inl (.inr b)
        · exact .inr ⟨e', m, b⟩
/-- What a list says of the labels does not hang on its order, nor on how often an edge stands in it. -/
theorem fold_same (n : Nat) (l l' : List (Nat × Nat × Nat)) (L : Nat → Nat → Nat) (h : ∀ e, e ∈ l ↔ e ∈ l') : l.foldl (stepE n) L = l'.foldl (stepE n) L := by
  funext f t
  apply Nat.eq_of_testBit_eq
  intro i
  rw [Bool.eq_iff_iff, fold_bit, fold_bit]
  simp only [h]
theorem mem_allE (L : Nat → Nat → Nat) (n : Nat) (h : ∀ f t, L f t < 16) (e : Nat × Nat × Nat) : e ∈ allE L n n ↔ ∃ f t, f < n ∧ t < n ∧ L f t ≠ 0 ∧ e = (f, t, L f t) := by
  unfold allE rowE lst
  simp only [List.mem_flatMap, List.mem_range, List.mem_map, List.mem_filter]
  have hE : ∀ f t, endsF L f 15 4 t = true ↔ L f t ≠ 0 := fun f t => by
    have := ends_15 L f t (h f t)
    cases hb : endsF L f 15 4 t
    · rw [hb] at this
      simp at this
      simp [this]
    · rw [hb] at this
      simp at this
      simp [this]
  constructor
  · rintro ⟨f, hf, t, ⟨ht, he⟩, rfl⟩
    exact ⟨f, t, hf, ht, (hE f t).1 he, rfl⟩
  · rintro ⟨f, t, hf, ht, he, rfl⟩
    exact ⟨f, hf, t, ⟨ht, (hE f t).2 he⟩, rfl⟩
theorem why_0 (n f t x : Nat) (hf : f < n) (ht : t < n) (hx : x < 16) (h0 : x ≠ 0) (hne : f ≠ t) : addWhy n (f : Int) (t : Int) (x : Int) = 0 := by
  unfold addWhy
  rw [if_neg (by omega), if_neg (by omega)]
/-- The edges drawn the other way round. -/
theorem fold_turn (L : Nat → Nat → Nat) (n : Nat) (h : ∀ f t, L f t < 16) (hd : ∀ f, L f f = 0) (f t : Nat) (hf : f < n) (ht : t < n) :
    (((allE L n n).map fun e => (e.2.1, e.1, e.2.2)).foldl (stepE n) (fun _ _ => 0)) f t = L t f := by
  apply Nat.eq_of_testBit_eq
  intro i
  rw [Bool.eq_iff_iff, fold_bit]
  constructor
  · rintro (a | ⟨e, m, _, rfl, rfl, hi, hb⟩)
    · simp at a
    · obtain ⟨e', m', rfl⟩ := List.mem_map.1 m
      obtain ⟨f', t', _, _, _, rfl⟩ := (mem_allE L n h e').1 m'
      exact hb
  · intro hb
    have h0 : L t f ≠ 0 := by intro e; rw [e] at hb; simp at hb
    have hne : f ≠ t := by rintro rfl; exact h0 (hd f)
    refine .inr ⟨(f, t, L t f), List.mem_map.2 ⟨(t, f, L t f), (mem_allE L n h _).2 ⟨t, f, ht, hf, h0, rfl⟩, rfl⟩, why_0 n f t _ hf ht (h t f) h0 hne, rfl, rfl, ?_, hb⟩
    by_cases hi : i < 4
    · exact hi
    · have := Nat.testBit_lt_two_pow (Nat.lt_of_lt_of_le (h t f) (Nat.pow_le_pow_right (n := 2) (i := 4) (by decide) (show 4 ≤ i by omega)))
      rw [this] at hb
      cases hb
/-- The edges of some labels alone. -/
theorem fold_only (L : Nat → Nat → Nat) (n m : Nat) (h : ∀ f t, L f t < 16) (hd : ∀ f, L f f = 0) (f t : Nat) (hf : f < n) (ht : t < n) :
    (((allE L n n).map fun e => (e.1, e.2.1, e.2.2 &&& m)).foldl (stepE n) (fun _ _ => 0)) f t = L f t &&& m := by
  apply Nat.eq_of_testBit_eq
  intro i
  rw [Bool.eq_iff_iff, fold_bit]
  constructor
  · rintro (a | ⟨e, mm, _, rfl, rfl, hi, hb⟩)
    · simp at a
    · obtain ⟨e', m', rfl⟩ := List.mem_map.1 mm
      obtain ⟨f', t', _, _, _, rfl⟩ := (mem_allE L n h e').1 m'
      exact hb
  · intro hb
    have h0 : L f t &&& m ≠ 0 := by intro e; rw [e] at hb; simp at hb
    have h1 : L f t ≠ 0 := by intro e; rw [e] at h0; simp at h0
    have hne : f ≠ t := by rintro rfl; exact h1 (hd f)
    have h16 : L f t &&& m < 16 := Nat.lt_of_le_of_lt Nat.and_le_left (h f t)
    refine .inr ⟨(f, t, L f t &&& m), List.mem_map.2 ⟨(f, t, L f t), (mem_allE L n h _).2 ⟨f, t, hf, ht, h1, rfl⟩, rfl⟩, why_0 n f t _ hf ht h16 h0 hne, rfl, rfl, ?_, hb⟩
    by_cases hi : i < 4
    · exact hi
    · have := Nat.testBit_lt_two_pow (Nat.lt_of_lt_of_le h16 (Nat.pow_le_pow_right (n := 2) (i := 4) (by decide) (show 4 ≤ i by omega)))
      rw [this] at hb
      cases hb
end Go.Proofs.YtdihbeffomibeaaGreatDoor
namespace Go.Proofs.YtdihbeffomibeaaGreatDoor
set_option linter.unusedVariables false
set_option linter.unusedSimpArgs false
open Go.RowKit

/-- All blocks but those of type T stay. -/
def Stay (T : TypeId) (w w' : World) : Prop := ∀ (x : Nat) (cs : Array Value) (t : TypeId), w.heap[x]? = some (.cells cs t) → t ≠ T → w'.heap[x]? = some (.cells cs t)
theorem EdgesIn.stay {B : Nat} {w w' : World} {v : Value} {l : List (Nat × Nat × Nat)} {T : TypeId} (h : EdgesIn B w v l) (hs : Stay T w w') (hT : T ≠ 61) : EdgesIn B w' v l := by
  refine ⟨h.1, ?_⟩
  rcases h.2 with h1 | ⟨g, cap, cur, hv, hB, hg, h2⟩
  · exact .inl h1
  · exact .inr ⟨g, cap, cur, hv, hB, hs _ _ _ hg (fun e => hT e.symm), h2⟩
set_option maxRecDepth 100000 in
theorem rstep (b n : Nat) (v : Value) (rw' : Nat → Nat) (L : Nat → Nat → Nat) (f t x : Nat) (H : Nat) (w : World) (h : RefG w b n v rw' L) (hlow : ∀ i, i < n → H ≤ rw' i) (hs : H ≤ w.heap.size) :
    Calls Tryz.prog 32 #[.pointer (some ⟨b, 0, none⟩), .int .i64 f, .int .i64 t, .int .i64 x] w fun e w' => (∃ y, e = .returned (.int .i64 y)) ∧ RefG w' b n v rw' (stepE n L (f, t, x)) ∧ Below H w w' ∧ Stay 3 w w' := by
  by_cases hw : addWhy n (f : Int) (t : Int) (x : Int) = 0
  · obtain ⟨F, T, X, e1, e2, e3, hF, hT, hX1, hX, hne⟩ := addWhy_0 hw
    obtain rfl : f = F := by omega
    obtain rfl : t = T := by omega
    obtain rfl : x = X := by omega
    have e : stepE n L (f, t, x) = addL L f t x 4 := by unfold stepE; rw [if_pos hw]
    rw [e]
    refine (rgadd_ok b n v rw' L f t x w h hF hT hX1 hX hne).mono ?_
    rintro e w' ⟨rfl, s, bs, z⟩
    exact ⟨⟨_, rfl⟩, s, bs.below (hlow f hF) hs, fun x cs t hx ht => h.at hF bs hx ht⟩
  · have e : stepE n L (f, t, x) = L := by unfold stepE; rw [if_neg hw]
    rw [e]
    refine (rgadd_no b n v rw' L f t x w h hw).mono ?_
    rintro e w' ⟨rfl, rfl⟩
    exact ⟨⟨_, rfl⟩, h, Below.refl _ _, fun x cs t hx _ => hx⟩
theorem fold_take {γ : Nat × Nat × Nat → Nat × Nat × Nat} {n : Nat} {L0 : Nat → Nat → Nat} {l : List (Nat × Nat × Nat)} {j : Nat} (hj : j < l.length) : (((l.take (j + 1)).map γ).foldl (stepE n) L0) = stepE n (((l.take j).map γ).foldl (stepE n) L0) (γ (l.getD j (0, 0, 0))) := by
  rw [List.take_add_one]
  have e : l[j]? = some (l.getD j (0, 0, 0)) := by simp [List.getD, hj]
  rw [e, List.map_append, List.foldl_append]
  rfl
end Go.Proofs.YtdihbeffomibeaaGreatDoor
namespace Go.Proofs.YtdihbeffomibeaaGreatDoor
set_option linter.unusedVariables false
set_option linter.unusedSimpArgs false
open Go.RowKit

theorem allE_16 (L : Nat → Nat → Nat) (n : Nat) (h : ∀ f t, L f t < 16) (j : Nat) (hj : j < (allE L n n).length) : ((allE L n n).getD j (0, 0, 0)).2.2 < 16 := by
  have hm : (allE L n n).getD j (0, 0, 0) ∈ allE L n n := by
    have e : (allE L n n).getD j (0, 0, 0) = (allE L n n)[j] := by simp [List.getD, hj]
    rw [e]
    exact List.getElem_mem hj
  obtain ⟨f, t, _, _, _, e⟩ := (mem_allE L n h _).1 hm
  rw [e]
  exact h f t
set_option maxRecDepth 100000 in
theorem gstep (b n r : Nat) (bk ck : Nat → Nat) (L : Nat → Nat → Nat) (f t x : Nat) (H : Nat) (w : World) (h : Graph w b n r bk ck L) (hlow : ∀ k, k < 4 * n → H ≤ ck k) (hs : H ≤ w.heap.size) :
    Calls Tryz.prog 37 #[.pointer (some ⟨b, 0, none⟩), .int .i64 f, .int .i64 t, .int .i64 x] w fun e w' => (∃ y, e = .returned (.int .i64 y)) ∧ Graph w' b n r bk ck (stepE n L (f, t, x)) ∧ Below H w w' ∧ Stay 109 w w' := by
  by_cases hw : addWhy n (f : Int) (t : Int) (x : Int) = 0
  · obtain ⟨F, T, X, e1, e2, e3, hF, hT, hX1, hX, hne⟩ := addWhy_0 hw
    obtain rfl : f = F := by omega
    obtain rfl : t = T := by omega
    obtain rfl : x = X := by omega
    have e : stepE n L (f, t, x) = addL L f t x 4 := by unfold stepE; rw [if_pos hw]
    rw [e]
    refine (gadd_ok b n r bk ck L f t x w h hF hT hX1 hX hne).mono ?_
    rintro e w' ⟨rfl, s, bs⟩
    exact ⟨⟨_, rfl⟩, s, bs.below H (fun k hk => by obtain ⟨i, hi, rfl⟩ := hk; exact hlow _ (by omega)) hs, fun x cs t hx ht => Save.at h hF bs hx ht⟩
  · have e : stepE n L (f, t, x) = L := by unfold stepE; rw [if_neg hw]
    rw [e]
    refine (gadd_no b n r bk ck L f t x w h hw).mono ?_
    rintro e w' ⟨rfl, rfl⟩
    exact ⟨⟨_, rfl⟩, h, Below.refl _ _, fun x cs t hx _ => hx⟩
theorem step_0 (n : Nat) (L : Nat → Nat → Nat) (f t : Nat) : stepE n L (f, t, 0) = L := by
  have h : addWhy n (f : Int) (t : Int) ((0 : Nat) : Int) ≠ 0 := by
    unfold addWhy
    by_cases h1 : ((f : Int) < 0 ∨ (n : Int) ≤ f) ∨ ((t : Int) < 0 ∨ (n : Int) ≤ t)
    · rw [if_pos h1]; decide
    · rw [if_neg h1, if_pos (by left; decide)]; decide
  unfold stepE
  rw [if_neg h]

set_option maxHeartbeats 8000000 in
set_option maxRecDepth 100000 in
theorem redrawT (b n r : Nat) (bk ck : Nat → Nat) (L : Nat → Nat → Nat) (w : World) (h : Graph w b n r bk ck L) (hT : Tab w) :
    Calls Tryz.prog 59 #[.pointer (some ⟨b, 0, none⟩), .func (.func 60) #[] #[]] w fun e w' => (∃ b' r' bk' ck', e = .returned (.pointer (some ⟨b', 0, none⟩)) ∧ Graph w' b' n r' bk' ck' (((allE L n n).map fun e => (e.2.1, e.1, e.2.2)).foldl (stepE n) (fun _ _ => 0)) ∧ ∀ k, k < 4 * n → w.heap.size ≤ ck' k) ∧ Below w.heap.size w w' := by
  have R := hid h
  have R0 : Hid (∀ f t, L f t < 16) := h.small
  have TB := hid hT
  have hn3 := h.bound
  have hni : (n : Int) ≤ 300 := by omega
  have H0 := hid (gMade_at b true w h.c0)
  have c1 := h.c1
  clear h hT
  go_enter Tryz.func59, Tryz.ntmps59
  go_wp2_with fail
  refine H0.out.mono ?_
  rintro e w' ⟨rfl, rfl⟩
  go_wp2_with fail
  clear c1
  refine (gnew_ok n hn3 w).mono ?_
  rintro e w1 ⟨rfl, m1, b1⟩
  have M1 := hid m1
  have B1 := hid b1
  clear m1 b1
  go_wp2_with fail
  refine (edges_is b n r bk ck L w1 (R.out.later B1.out) (TB.out.later B1.out)).mono ?_
  rintro e w2 ⟨⟨u, rfl, hE⟩, b2⟩
  have E2 := hid hE
  have G2 := hid (M1.out.later b2)
  have B2 := hid (B1.out.trans (b2.mono B1.out.size))
  have LOW : Hid (∀ k, k < 4 * n → w.heap.size ≤ (fun k => w.heap.size + 2 + 2 * k) k) := fun k _ => by show w.heap.size ≤ w.heap.size + 2 + 2 * k; omega
  generalize (fun k => w.heap.size + 2 + 2 * k) = ck' at *
  generalize (fun k => w.heap.size + 3 + 2 * k) = bk' at *
  generalize w.heap.size + 1 = b' at *
  obtain ⟨la, lc, rfl, -⟩ := hE.arg
  have hle := allE_len L n n
  have hnn : n * n ≤ 300 * 300 := Nat.mul_le_mul hn3 hn3
  have hlen : (allE L n n).length ≤ 90000 := by omega
  have HEL : Hid (∀ w l, EdgesIn w1.heap.size w l (allE L n n) → l = .slice la (List.map intE (allE L n n)).length lc → ArgE w la ((allE L n n).map intE)) := fun w l hl el => by
    obtain ⟨la', lc', hv', hA'⟩ := hl.arg
    rw [el] at hv'
    injection hv' with e1 e2 e3
    rw [e1]
    exact hA'
  rw [List.length_map] at E2 HEL ⊢
  have hleni : ((allE L n n).length : Int) ≤ 90000 := by omega
  clear hle hnn M1 R hE b2
  go_wp2_with fail
  go_loopg [8, 23] (allE L n n).length (fun g _ i wr => ∃ j : Nat, j ≤ (allE L n n).length ∧ (allE L n n).length - j ≤ g ∧ i = .int .i64 j ∧ Aside (EdgesIn w1.heap.size wr (.slice la (allE L n n).length lc) (allE L n n)) ∧ Aside (Graph wr b' n w.heap.size bk' ck' ((((allE L n n).take j).map fun e => (e.2.1, e.1, e.2.2)).foldl (stepE n) (fun _ _ => 0))) ∧ Aside (Below w.heap.size w wr))
  case atStart => exact ⟨0, Nat.zero_le _, by omega, rfl, E2.out, (by show Graph _ _ _ _ _ _ _; simpa using G2.out), B2.out⟩
  case round =>
    clear E2 G2 B2
    obtain ⟨j, hj, hg, rfl, EY, GX, BX⟩ := hrel
    by_cases hjl : j < (allE L n n).length
    · have hjli : (j : Int) < (allE L n n).length := by omega
      obtain ⟨ob, oo, ho, d1, d2, d3⟩ := (HEL.out wr _ EY.out rfl) j (by rw [List.length_map]; exact hjl)
      have e0 : ((allE L n n).map intE).getD j (0, 0, 0) = intE ((allE L n n).getD j (0, 0, 0)) := by simp [List.getD, hjl]
      rw [e0] at d1 d2 d3
      have FT := hid (fold_take (γ := fun e => (e.2.1, e.1, e.2.2)) (n := n) (L0 := fun _ _ => 0) hjl)
      obtain ⟨⟨F, T, X⟩, hd⟩ : ∃ d, (allE L n n).getD j (0, 0, 0) = d := ⟨_, rfl⟩
      have HX : X < 16 := by have := allE_16 L n R0.out j hjl; rw [hd] at this; exact this
      rw [hd] at d1 d2 d3 FT
      simp only [intE] at d1 d2 d3
      clear e0 hd
      subst ho
      go_wp2_with fail
      refine (turnC F T X _).mono ?_
      rintro e w3 ⟨rfl, b3⟩
      have hkl : wr.heap.size < (wr.alloc (.cells #[.int .i64 F, .int .i64 T, .int .i64 X] 61)).heap.size := by simp
      have KB : Hid (w3.heap[wr.heap.size]? = some (.cells #[.int .i64 F, .int .i64 T, .int .i64 X] 61)) := (b3.block _ hkl).trans (heap_alloc_new wr _)
      have BS : Hid (Below wr.heap.size wr w3) := (below_box wr _).trans (b3.mono (by simp))
      have q0 : w3.cell? ⟨wr.heap.size, 0, none⟩ = some (.int .i64 F) := Lib.cell_of_heap KB.out 0
      have q1 : w3.cell? ⟨wr.heap.size, 1, none⟩ = some (.int .i64 T) := Lib.cell_of_heap KB.out 1
      have q2 : w3.cell? ⟨wr.heap.size, 2, none⟩ = some (.int .i64 X) := Lib.cell_of_heap KB.out 2
      have f0 : w3.frozen? ⟨wr.heap.size, 0, none⟩ = false := Lib.frozen_of_heap KB.out 0
      have f1 : w3.frozen? ⟨wr.heap.size, 1, none⟩ = false := Lib.frozen_of_heap KB.out 1
      have f2 : w3.frozen? ⟨wr.heap.size, 2, none⟩ = false := Lib.frozen_of_heap KB.out 2
      clear b3 hkl d1 d2 d3
      have BZ : Hid (Below wr.heap.size wr (((w3.setCell ⟨wr.heap.size, 0, none⟩ (.int .i64 T)).setCell ⟨wr.heap.size, 1, none⟩ (.int .i64 F)).setCell ⟨wr.heap.size, 2, none⟩ (.int .i64 X))) := ((BS.out.setCell (Nat.le_refl _) _).setCell (Nat.le_refl _) _).setCell (Nat.le_refl _) _
      have BY : Hid (Below w.heap.size w (((w3.setCell ⟨wr.heap.size, 0, none⟩ (.int .i64 T)).setCell ⟨wr.heap.size, 1, none⟩ (.int .i64 F)).setCell ⟨wr.heap.size, 2, none⟩ (.int .i64 X))) := BX.out.trans (BZ.out.mono BX.out.size)
      by_cases hX0 : X = 0
      · subst hX0
        have G4 : Hid (Graph (((w3.setCell ⟨wr.heap.size, 0, none⟩ (.int .i64 T)).setCell ⟨wr.heap.size, 1, none⟩ (.int .i64 F)).setCell ⟨wr.heap.size, 2, none⟩ (.int .i64 (0 : Nat))) b' n w.heap.size bk' ck' ((((allE L n n).take (j + 1)).map fun e => (e.2.1, e.1, e.2.2)).foldl (stepE n) (fun _ _ => 0))) := by
          rw [FT.out]
          show Graph _ b' n w.heap.size bk' ck' (stepE n _ (T, F, 0))
          rw [step_0]
          exact GX.out.later BZ.out
        go_wp2_with fail
        go_roundg ((allE L n n).length - (j + 1))
        · exact ⟨j + 1, by omega, by omega, by go_num, EY.out.later BZ.out, G4.out, BY.out⟩
        · omega
      · have hXi : ¬ (X : Int) = 0 := by omega
        have hXn : ((X : Int) != 0) = true := by simp; omega
        clear hX0
        go_wp2_with fail
        go_at_call 37
        refine (gstep b' n w.heap.size bk' ck' _ T F X w.heap.size _ (GX.out.later BZ.out) LOW.out BY.out.size).mono ?_
        rintro e w4 ⟨⟨y, rfl⟩, s4, b4, k4⟩
        have E4 := hid ((EY.out.later BZ.out).stay k4 (by decide))
        have B4 := hid (BY.out.trans b4)
        have G4 : Hid (Graph w4 b' n w.heap.size bk' ck' ((((allE L n n).take (j + 1)).map fun e => (e.2.1, e.1, e.2.2)).foldl (stepE n) (fun _ _ => 0))) := by rw [FT.out]; exact s4
        clear s4 b4 k4
        go_wp2_with fail
        go_roundg ((allE L n n).length - (j + 1))
        · exact ⟨j + 1, by omega, by omega, by go_num, E4.out, G4.out, B4.out⟩
        · omega
    · have hjli : ¬ (j : Int) < (allE L n n).length := by omega
      have GZ : Hid (Graph wr b' n w.heap.size bk' ck' (((allE L n n).map fun e => (e.2.1, e.1, e.2.2)).foldl (stepE n) (fun _ _ => 0))) := by
        have h := GX.out
        rw [List.take_of_length_le (by omega)] at h
        exact h
      go_wp2_with fail
      go_ret
      first | exact ⟨⟨_, rfl, _, bk', ck', GZ.out, LOW.out⟩, BX.out⟩ | exact ⟨⟨_, _, bk', ck', rfl, GZ.out, LOW.out⟩, BX.out⟩
end Go.Proofs.YtdihbeffomibeaaGreatDoor
