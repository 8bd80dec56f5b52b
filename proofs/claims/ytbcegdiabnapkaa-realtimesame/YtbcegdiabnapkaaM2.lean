/-
  reached.
-/
import Derived.Test.YtbcegdiabnapkaaM1
import Derived.Deep.OwnRows
import Derived.BigRegion
namespace Go.Proofs.Ytbcegdiabnapkaa
set_option linter.unusedVariables false
set_option linter.unusedSimpArgs false
open Go.RowKit Go.Lib

def upd (M : Nat → Nat → Bool) (i j : Nat) (b : Bool) : Nat → Nat → Bool := fun x y => if x = i ∧ y = j then b else M x y
/-- A matrix of bools, its first k rows made. -/
def Mx (w : World) (g n k : Nat) (M : Nat → Nat → Bool) : Prop :=
  w.rowIs g 36 n (fun i => if i < k then .slice (some ⟨g + 1 + i, 0, none⟩) n n else .slice none 0 0) ∧ ∀ i, i < k → w.rowIs (g + 1 + i) 4 n (fun j => .bool (M i j))
theorem World.size_setCell' (w : World) (a : Addr) (v : Value) : (w.setCell a v).heap.size = w.heap.size := by simp
theorem Mx.made (w : World) (n : Nat) : Mx (w.alloc (.cells (madeCells #[.slice none 0 0] n) 36)) w.heap.size n 0 (fun _ _ => false) :=
  ⟨(World.rowIs_made w _ n 36).congr (fun i hi => by simp), fun i hi => by omega⟩
theorem Mx.later {w w' : World} {g n k : Nat} {M : Nat → Nat → Bool} (h : Mx w g n k M) (hb : Below w.heap.size w w') : Mx w' g n k M :=
  ⟨h.1.of_block (hb.block _ h.1.lt), fun i hi => (h.2 i hi).of_block (hb.block _ (h.2 i hi).lt)⟩
theorem Mx.congr {w : World} {g n : Nat} {M N : Nat → Nat → Bool} (h : Mx w g n n M) (e : ∀ i j, i < n → j < n → M i j = N i j) : Mx w g n n N :=
  ⟨h.1, fun i hi => (h.2 i hi).congr (fun j hj => by rw [e i j hi hj])⟩
theorem Mx.of_heap {w w' : World} {g n k : Nat} {M : Nat → Nat → Bool} (h : Mx w g n k M) (e : w'.heap = w.heap) : Mx w' g n k M :=
  ⟨h.1.of_block (by rw [e]), fun i hi => (h.2 i hi).of_block (by rw [e])⟩
theorem Mx.head {w : World} {g n k : Nat} {M : Nat → Nat → Bool} (h : Mx w g n k M) {i : Nat} (hi : i < k) (hn : i < n) : w.cell? ⟨g, i, none⟩ = some (.slice (some ⟨g + 1 + i, 0, none⟩) n n) := by
  have := h.1.cell hn
  rwa [if_pos hi] at this
theorem Mx.row {w : World} {g n k : Nat} (h : Mx w g n k (fun _ _ => false)) (hk : k < n) (hsz : w.heap.size = g + 1 + k) : Mx ((w.setCell ⟨g, k, none⟩ (.slice (some ⟨w.heap.size, 0, none⟩) n n)).alloc (.cells (madeCells #[.bool false] n) 4)) g n (k + 1) (fun _ _ => false) := by
  refine ⟨((h.1.set k _).alloc _).congr (fun i hi => ?_), fun i hi => ?_⟩
  · by_cases e : i = k
    · rw [if_pos e, if_pos (by omega), hsz, e]
    · rw [if_neg e]
      by_cases e2 : i < k
      · rw [if_pos e2, if_pos (by omega)]
      · rw [if_neg e2, if_neg (by omega)]
  · by_cases e : i = k
    · subst e
      have := World.rowIs_made (w.setCell ⟨g, i, none⟩ (.slice (some ⟨w.heap.size, 0, none⟩) n n)) (.bool false) n 4
      rw [World.size_setCell', hsz] at this
      rw [hsz]
      exact this
    · exact ((h.2 i (by omega)).setOther (a := ⟨g, k, none⟩) (by show g + 1 + i ≠ g; omega) _).alloc _
theorem Mx.set {w : World} {g n : Nat} {M : Nat → Nat → Bool} (h : Mx w g n n M) {i j : Nat} (hi : i < n) (hj : j < n) (b : Bool) : Mx (w.setCell ⟨g + 1 + i, j, none⟩ (.bool b)) g n n (upd M i j b) := by
  refine ⟨h.1.setOther (a := ⟨g + 1 + i, j, none⟩) (by show g ≠ g + 1 + i; omega) _, fun x hx => ?_⟩
  by_cases e : x = i
  · subst e
    refine ((h.2 x hx).set j _).congr (fun y hy => ?_)
    unfold upd
    by_cases e2 : y = j
    · rw [if_pos e2, if_pos ⟨rfl, e2⟩]
    · rw [if_neg e2, if_neg (fun h => e2 h.2)]
  · refine ((h.2 x hx).setOther (a := ⟨g + 1 + i, j, none⟩) (by show g + 1 + x ≠ g + 1 + i; omega) _).congr (fun y hy => ?_)
    unfold upd
    rw [if_neg (fun h => e h.1)]
theorem Mx.set' {w w' : World} {g n : Nat} {M : Nat → Nat → Bool} (h : Mx w g n n M) {i j : Nat} (hi : i < n) (hj : j < n) (b : Bool) (hw : w'.heap = (w.setCell ⟨g + 1 + i, j, none⟩ (.bool b)).heap) : Mx w' g n n (upd M i j b) := (h.set hi hj b).of_heap hw

/-- In round k, at row i and column j. -/
def In5 (R P : Nat → Nat → Bool) (n k i j : Nat) (M : Nat → Nat → Bool) : Prop :=
  (∀ a b, a < n → b < n → war R k a b = true → M a b = true) ∧ (∀ a b, a < n → b < n → (a < i ∨ (a = i ∧ b < j)) → war R (k + 1) a b = true → M a b = true) ∧ (∀ a b, a < n → b < n → M a b = true → P a b = true) ∧ (∀ a c b, a < n → c < n → b < n → P a c = true → P c b = true → P a b = true)
theorem In5.step {R P : Nat → Nat → Bool} {n k i j : Nat} {M : Nat → Nat → Bool} (h : In5 R P n k i j M) (hk : k < n) (hi : i < n) (hj : j < n) (b : Bool) (hb : b = (M i j || (M i k && M k j))) : In5 R P n k i (j + 1) (upd M i j b) := by
  have up : ∀ x y, M x y = true → upd M i j b x y = true := fun x y hM => by
    unfold upd
    by_cases e : x = i ∧ y = j
    · obtain ⟨rfl, rfl⟩ := e
      rw [if_pos ⟨rfl, rfl⟩, hb, hM]
      rfl
    · rw [if_neg e]
      exact hM
  refine ⟨fun x y hx hy hw => up x y (h.1 x y hx hy hw), fun x y hx hy hd hw => ?_, fun x y hx hy hM => ?_, h.2.2.2⟩
  · by_cases e : x = i ∧ y = j
    · obtain ⟨rfl, rfl⟩ := e
      unfold upd
      rw [if_pos ⟨rfl, rfl⟩, hb]
      simp only [war, Bool.or_eq_true, Bool.and_eq_true] at hw ⊢
      rcases hw with hw | ⟨h1, h2⟩
      · exact .inl (h.1 x y hx hy hw)
      · exact .inr ⟨h.1 x k hx hk h1, h.1 k y hk hy h2⟩
    · refine up x y (h.2.1 x y hx hy ?_ hw)
      rcases hd with hd | ⟨h1, h2⟩
      · exact .inl hd
      · refine .inr ⟨h1, ?_⟩
        have : y ≠ j := fun e2 => e ⟨h1, e2⟩
        omega
  · unfold upd at hM
    by_cases e : x = i ∧ y = j
    · obtain ⟨rfl, rfl⟩ := e
      rw [if_pos ⟨rfl, rfl⟩, hb] at hM
      simp only [Bool.or_eq_true, Bool.and_eq_true] at hM
      rcases hM with hM | ⟨h1, h2⟩
      · exact h.2.2.1 x y hx hy hM
      · exact h.2.2.2 x k y hx hk hy (h.2.2.1 x k hx hk h1) (h.2.2.1 k y hk hy h2)
    · rw [if_neg e] at hM
      exact h.2.2.1 x y hx hy hM
theorem In5.row {R P : Nat → Nat → Bool} {n k i : Nat} {M : Nat → Nat → Bool} (h : In5 R P n k i n M) : In5 R P n k (i + 1) 0 M :=
  ⟨h.1, fun a b ha hb hd => h.2.1 a b ha hb (by omega), h.2.2⟩
theorem In5.next {R P : Nat → Nat → Bool} {n k : Nat} {M : Nat → Nat → Bool} (h : In5 R P n k n 0 M) : In5 R P n (k + 1) 0 0 M :=
  ⟨fun a b ha hb => h.2.1 a b ha hb (.inl ha), fun a b ha hb hd => by omega, h.2.2⟩

theorem Try.info36 : (Try.prog.info? 36).map (fun i => (i.zero, i.size, i.bytes)) = some (some (.slice none 0 0), 1, 24) := by kernel_rfl
theorem Try.info4 : (Try.prog.info? 4).map (fun i => (i.zero, i.size, i.bytes)) = some (some (.bool false), 1, 1) := by kernel_rfl

set_option maxHeartbeats 8000000 in
set_option maxRecDepth 100000 in
/-- What reached hands back, where what is to be reached is known. -/
theorem reached_is (ao : Option Addr) (c n L : Nat) (g : Nat → Int × Int) (R P : Nat → Nat → Bool) (w : World) (hn : n ≤ 25) (hL : L ≤ 4000) (hl : Ls w ao L g)
    (hg : ∀ t, t < L → ∃ x y : Nat, x < n ∧ y < n ∧ g t = ((x : Int), (y : Int)) ∧ P x y = true) (hR : ∀ x y : Nat, x < n → y < n → R x y = true → ∃ t, t < L ∧ g t = ((x : Int), (y : Int)))
    (hP : ∀ a c b, a < n → c < n → b < n → P a c = true → P c b = true → P a b = true) (hW : ∀ a b, a < n → b < n → P a b = true → war R n a b = true) :
    Calls Try.prog 20 #[.int .i64 n, .slice ao L c] w fun e w' => e = .returned (.slice (some ⟨w.heap.size, 0, none⟩) n n) ∧ Mx w' w.heap.size n n P ∧ Below w.heap.size w w' := by
  have hmk1 : ∀ W : World, (Instr.makeSlice 35 (.int .i64 (n : Int)) (.int .i64 (n : Int))).run Try.prog W = .ok (.slice (some ⟨W.heap.size, 0, none⟩) n n) (W.alloc (.cells (madeCells #[.slice none 0 0] n) 36)) := fun W => run_make_row' 35 36 (.slice none 0 0) 24 Try.underlying35 Try.info36 rfl .i64 .i64 n (by omega) (by omega) W
  have hmk2 : ∀ W : World, (Instr.makeSlice 36 (.int .i64 (n : Int)) (.int .i64 (n : Int))).run Try.prog W = .ok (.slice (some ⟨W.heap.size, 0, none⟩) n n) (W.alloc (.cells (madeCells #[.bool false] n) 4)) := fun W => run_make_row' 36 4 (.bool false) 1 Try.underlying36 Try.info4 rfl .i64 .i64 n (by omega) (by omega) W
  have L0 := hid hl
  have HG := hid hg
  have HR := hid hR
  have HP := hid hP
  have HW := hid hW
  clear hl hg hR hP hW
  go_enter Try.func20, Try.ntmps20
  go_wp2_with fail
  have M0 := hid (Mx.made w n)
  have B0 := hid ((Below.refl w.heap.size w).alloc (Nat.le_refl _) (.cells (madeCells #[.slice none 0 0] n) 36))
  have Z0 : Hid ((w.alloc (.cells (madeCells #[.slice none 0 0] n) 36)).heap.size = w.heap.size + 1 + 0) := by
    show _ = _
    simp
  generalize w.alloc (.cells (madeCells #[.slice none 0 0] n) 36) = w0 at *
  clear hmk1
  go_loopg [6, 16] n (fun gg _ i wr => ∃ k : Nat, k ≤ n ∧ n - k ≤ gg ∧ i = .int .i64 k ∧ Aside (Below w.heap.size w wr) ∧ Aside (Mx wr w.heap.size n k (fun _ _ => false)) ∧ Aside (wr.heap.size = w.heap.size + 1 + k))
  case atStart => exact ⟨0, Nat.zero_le _, by omega, rfl, B0.out, M0.out, Z0.out⟩
  case round =>
    clear B0 M0 Z0
    obtain ⟨k, hk, hgk, rfl, BW, MX, ZX⟩ := hrel
    by_cases hlt : k < n
    · have hlti : (k : Int) < (n : Int) := by omega
      have c0 : wr.cell? ⟨w.heap.size, k, none⟩ = some (.slice none 0 0) := by
        have := MX.out.1.cell hlt
        rwa [if_neg (by omega)] at this
      have z0 : wr.frozen? ⟨w.heap.size, k, none⟩ = false := MX.out.1.frozen k
      have hlw : w.heap.size < wr.heap.size := MX.out.1.lt
      have c1 : ∀ o, (wr.alloc o).cell? ⟨w.heap.size, k, none⟩ = some (.slice none 0 0) := fun o => (World.cell?_alloc_lt _ _ _ hlw).trans c0
      have z1 : ∀ o, (wr.alloc o).frozen? ⟨w.heap.size, k, none⟩ = false := fun o => by rw [World.frozen?_alloc_past _ _ _ hlw]; exact z0
      go_wp2_with fail
      have M1 := hid (MX.out.row hlt ZX.out)
      have B1 : Hid (Below w.heap.size w ((wr.setCell ⟨w.heap.size, k, none⟩ (.slice (some ⟨wr.heap.size, 0, none⟩) n n)).alloc (.cells (madeCells #[.bool false] n) 4))) := (BW.out.setCell (p := ⟨w.heap.size, k, none⟩) (Nat.le_refl _) _).alloc (by have := BW.out.size; simp; omega) _
      have Z1 : Hid (((wr.setCell ⟨w.heap.size, k, none⟩ (.slice (some ⟨wr.heap.size, 0, none⟩) n n)).alloc (.cells (madeCells #[.bool false] n) 4)).heap.size = w.heap.size + 1 + (k + 1)) := by
        show _ = _
        have := ZX.out
        simp
        omega
      go_roundg (n - (k + 1))
      case measure => omega
      case rel => exact ⟨k + 1, by omega, by omega, by go_num, B1.out, M1.out, Z1.out⟩
    · have hlti : ¬ (k : Int) < (n : Int) := by omega
      have hkn : n = k := by omega
      subst hkn
      clear ZX hmk2
      go_wp2_with fail
      go_loopg [8, 27] L (fun gg _ i wr => ∃ (t : Nat) (M : Nat → Nat → Bool), t ≤ L ∧ L - t ≤ gg ∧ i = .int .i64 t ∧ Aside (Below w.heap.size w wr) ∧ Aside (Mx wr w.heap.size n n M) ∧ Aside ((∀ s, s < t → ∀ x y : Nat, g s = ((x : Int), (y : Int)) → M x y = true) ∧ (∀ x y, x < n → y < n → M x y = true → P x y = true)))
      case atStart => exact ⟨0, _, Nat.zero_le _, by omega, rfl, BW.out, MX.out, (⟨fun s hs => by omega, fun x y _ _ h => by cases h⟩ : _ ∧ _)⟩
      case round =>
        clear BW MX
        obtain ⟨t, M, ht, hgt, rfl, BW, MX, IN⟩ := hrel
        by_cases htl : t < L
        · have htli : (t : Int) < (L : Int) := by omega
          obtain ⟨b, o, rfl, hbl, s1, s2⟩ := (L0.out.later BW.out) t htl
          obtain ⟨x, y, hx, hy, eg, hp⟩ := HG.out t htl
          rw [eg] at s1 s2
          dsimp only at s1 s2
          have EG := hid eg
          have HPX := hid hp
          clear eg hp
          have hx0 : (0 : Int) ≤ (x : Int) := by omega
          have hy0 : (0 : Int) ≤ (y : Int) := by omega
          have hxi : (x : Int) < (n : Int) := by omega
          have hyi : (y : Int) < (n : Int) := by omega
          have AL := hid ((Below.refl wr.heap.size wr).alloc (Nat.le_refl _) (.cells #[.int .i64 x, .int .i64 y] 30))
          have a0 : (wr.alloc (.cells #[.int .i64 x, .int .i64 y] 30)).cell? ⟨wr.heap.size, 0, none⟩ = some (.int .i64 x) := by simp
          have a1 : (wr.alloc (.cells #[.int .i64 x, .int .i64 y] 30)).cell? ⟨wr.heap.size, 1, none⟩ = some (.int .i64 y) := by simp
          go_wp2_with fail
          have MX2 := hid (MX.out.later AL.out)
          have BW2 := hid (BW.out.trans (AL.out.mono BW.out.size))
          clear s1 s2 AL BW MX
          generalize wr.alloc (.cells #[.int .i64 x, .int .i64 y] 30) = wa at *
          generalize wr.heap.size = pa at *
          have c1 := MX2.out.head hx hx
          have d1 := (MX2.out.2 x hx).cell hy
          have z1 := (MX2.out.2 x hx).frozen y
          go_region
          have IN2 : Hid ((∀ s, s < t + 1 → ∀ x' y' : Nat, g s = ((x' : Int), (y' : Int)) → upd M x y true x' y' = true) ∧ (∀ x' y', x' < n → y' < n → upd M x y true x' y' = true → P x' y' = true)) := by
            refine ⟨fun s hs x' y' e => ?_, fun x' y' h1 h2 h3 => ?_⟩
            · unfold upd
              by_cases e2 : x' = x ∧ y' = y
              · rw [if_pos e2]
              · rw [if_neg e2]
                by_cases e3 : s = t
                · subst e3
                  rw [EG.out] at e
                  simp only [Prod.mk.injEq] at e
                  exact absurd (⟨by omega, by omega⟩ : x' = x ∧ y' = y) e2
                · exact IN.out.1 s (by omega) x' y' e
            · unfold upd at h3
              by_cases e2 : x' = x ∧ y' = y
              · rw [e2.1, e2.2]
                exact HPX.out
              · rw [if_neg e2] at h3
                exact IN.out.2 x' y' h1 h2 h3
          go_wp2_with fail
          go_roundg (L - (t + 1))
          case measure => omega
          case rel => exact ⟨t + 1, _, by omega, by omega, by go_num, (BW2.out.setCell (p := ⟨w.heap.size + 1 + x, y, none⟩) (by show w.heap.size ≤ w.heap.size + 1 + x; omega) _).drew, MX2.out.set' hx hy true rfl, IN2.out⟩
        · have htli : ¬ (t : Int) < (L : Int) := by omega
          have htL : t = L := by omega
          subst htL
          have I0 : Hid (In5 R P n 0 0 0 M) := ⟨fun a b ha hb h => by
            obtain ⟨s, hs, e⟩ := HR.out a b ha hb h
            exact IN.out.1 s hs a b e, fun a b ha hb hd => by omega, IN.out.2, HP.out⟩
          clear IN HR HP HG L0
          go_wp2_with fail
          go_loopg [9, 61] n (fun gg _ i wr => ∃ (k : Nat) (M : Nat → Nat → Bool), k ≤ n ∧ n - k ≤ gg ∧ i = .int .i64 k ∧ Aside (Below w.heap.size w wr) ∧ Aside (Mx wr w.heap.size n n M) ∧ Aside (In5 R P n k 0 0 M))
          case atStart => exact ⟨0, _, Nat.zero_le _, by omega, rfl, BW.out, MX.out, I0.out⟩
          case round =>
            clear BW MX I0
            obtain ⟨k, M, hkn, hgk, rfl, BW, MX, IN⟩ := hrel
            by_cases hk : k < n
            · have hki : (k : Int) < (n : Int) := by omega
              go_wp2_with fail
              go_loopg [10, 65] n (fun gg _ i wr => ∃ (ii : Nat) (M : Nat → Nat → Bool), ii ≤ n ∧ n - ii ≤ gg ∧ i = .int .i64 ii ∧ Aside (Below w.heap.size w wr) ∧ Aside (Mx wr w.heap.size n n M) ∧ Aside (In5 R P n k ii 0 M))
              case atStart => exact ⟨0, _, Nat.zero_le _, by omega, rfl, BW.out, MX.out, IN.out⟩
              case round =>
                clear BW MX IN
                obtain ⟨i, M, hin, hgi, rfl, BW, MX, IN⟩ := hrel
                by_cases hi : i < n
                · have hii : (i : Int) < (n : Int) := by omega
                  go_wp2_with fail
                  go_loopg [11, 69] n (fun gg _ iv wr => ∃ (j : Nat) (M : Nat → Nat → Bool), j ≤ n ∧ n - j ≤ gg ∧ iv = .int .i64 j ∧ Aside (Below w.heap.size w wr) ∧ Aside (Mx wr w.heap.size n n M) ∧ Aside (In5 R P n k i j M))
                  case atStart => exact ⟨0, _, Nat.zero_le _, by omega, rfl, BW.out, MX.out, IN.out⟩
                  case round =>
                    clear BW MX IN
                    obtain ⟨j, M, hjn, hgj, rfl, BW, MX, IN⟩ := hrel
                    by_cases hj : j < n
                    · have hji : (j : Int) < (n : Int) := by omega
                      have c1 := MX.out.head hi hi
                      have c2 := MX.out.head hk hk
                      have d1 := (MX.out.2 i hi).cell hj
                      have d2 := (MX.out.2 i hi).cell hk
                      have d3 := (MX.out.2 k hk).cell hj
                      have z1 := (MX.out.2 i hi).frozen j
                      go_wp2_with fail
                      cases q1 : M i j with
                      | true =>
                        rw [q1] at d1
                        have Q : Hid (true = (M i j || (M i k && M k j))) := by
                          show _ = _
                          rw [q1]; rfl
                        clear d2 d3 c2 q1
                        go_region
                        go_wp2_with fail
                        go_roundg (n - (j + 1))
                        case measure => omega
                        case rel => exact ⟨j + 1, _, by omega, by omega, by go_num, (BW.out.setCell (p := ⟨w.heap.size + 1 + i, j, none⟩) (by show w.heap.size ≤ w.heap.size + 1 + i; omega) _).drew, MX.out.set' hi hj true rfl, IN.out.step hk hi hj _ Q.out⟩
                      | false =>
                        rw [q1] at d1
                        cases q2 : M i k with
                        | false =>
                          rw [q2] at d2
                          have Q : Hid (false = (M i j || (M i k && M k j))) := by
                            show _ = _
                            rw [q1, q2]; rfl
                          clear d3 c2 q1 q2
                          go_region
                          go_wp2_with fail
                          go_roundg (n - (j + 1))
                          case measure => omega
                          case rel => exact ⟨j + 1, _, by omega, by omega, by go_num, (BW.out.setCell (p := ⟨w.heap.size + 1 + i, j, none⟩) (by show w.heap.size ≤ w.heap.size + 1 + i; omega) _).drew, MX.out.set' hi hj false rfl, IN.out.step hk hi hj _ Q.out⟩
                        | true =>
                          rw [q2] at d2
                          cases q3 : M k j with
                          | true =>
                            rw [q3] at d3
                            have Q : Hid (true = (M i j || (M i k && M k j))) := by
                              show _ = _
                              rw [q1, q2, q3]; rfl
                            clear q1 q2 q3
                            go_region
                            go_wp2_with fail
                            go_roundg (n - (j + 1))
                            case measure => omega
                            case rel => exact ⟨j + 1, _, by omega, by omega, by go_num, (BW.out.setCell (p := ⟨w.heap.size + 1 + i, j, none⟩) (by show w.heap.size ≤ w.heap.size + 1 + i; omega) _).drew, MX.out.set' hi hj true rfl, IN.out.step hk hi hj _ Q.out⟩
                          | false =>
                            rw [q3] at d3
                            have Q : Hid (false = (M i j || (M i k && M k j))) := by
                              show _ = _
                              rw [q1, q2, q3]; rfl
                            clear q1 q2 q3
                            go_region
                            go_wp2_with fail
                            go_roundg (n - (j + 1))
                            case measure => omega
                            case rel => exact ⟨j + 1, _, by omega, by omega, by go_num, (BW.out.setCell (p := ⟨w.heap.size + 1 + i, j, none⟩) (by show w.heap.size ≤ w.heap.size + 1 + i; omega) _).drew, MX.out.set' hi hj false rfl, IN.out.step hk hi hj _ Q.out⟩
                    · have hji : ¬ (j : Int) < (n : Int) := by omega
                      have hjn2 : j = n := by omega
                      subst hjn2
                      go_wp2_with fail
                      go_roundg (j - (i + 1))
                      case measure => omega
                      case rel => exact ⟨i + 1, _, by omega, by omega, by go_num, BW.out, MX.out, IN.out.row⟩
                · have hii : ¬ (i : Int) < (n : Int) := by omega
                  have hin2 : i = n := by omega
                  subst hin2
                  go_wp2_with fail
                  go_roundg (i - (k + 1))
                  case measure => omega
                  case rel => exact ⟨k + 1, _, by omega, by omega, by go_num, BW.out, MX.out, IN.out.next⟩
            · have hki : ¬ (k : Int) < (n : Int) := by omega
              have hkn2 : n = k := by omega
              subst hkn2
              have MF : Hid (Mx wr w.heap.size n n P) := MX.out.congr (fun a b ha hb => by
                rw [Bool.eq_iff_iff]
                exact ⟨IN.out.2.2.1 a b ha hb, fun h => IN.out.1 a b ha hb (HW.out a b ha hb h)⟩)
              clear MX IN
              go_wp2_with fail
              go_ret
              exact ⟨rfl, MF.out, BW.out⟩
end Go.Proofs.Ytbcegdiabnapkaa
