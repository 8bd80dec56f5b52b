/-
  The reference's reader of tokens: walks of op.
-/
import Derived.Test.YtegeiojcdjnmjaaGreatDoorL19
namespace Go.Proofs.YtegeiojcdjnmjaaGreatDoor
set_option linter.unusedVariables false
set_option linter.unusedSimpArgs false
open Go.RowKit

/-- What reader.op answers. -/
def OpPost (bx : Nat) (en : Int) (w : World) (o : MOp) (r : Rd) (e : Ending) (w' : World) : Prop :=
  ∃ lv, e = .returned (.agg #[.int .i64 o.kind, .string o.key, .int .i64 o.value, lv, .bool o.has, .bool o.nl]) ∧ IntsIn (fun b => w.heap.size ≤ b) w' lv o.list ∧ RS bx en w' r ∧ Beside bx w w'
theorem rs_put6 {bx g : Nat} {en : Int} {w : World} {r : Rd} (h : RS bx en w r) (hg : bx < g) (a0 a1 a2 a3 a4 a5 : Value) : RS bx en ((((((w.setCell ⟨g, 0, none⟩ a0).setCell ⟨g, 1, none⟩ a1).setCell ⟨g, 2, none⟩ a2).setCell ⟨g, 3, none⟩ a3).setCell ⟨g, 4, none⟩ a4).setCell ⟨g, 5, none⟩ a5) r :=
  rs_set (rs_set (rs_set (rs_set (rs_set (rs_set h hg _) hg _) hg _) hg _) hg _) hg _
set_option maxHeartbeats 4000000 in
set_option maxRecDepth 100000 in
theorem op_13 (bx : Nat) (en : Int) (r : Rd) (w : World) (q1 : MTok × Rd) (k : Int) (r2 : Rd) (s : ByteArray) (r3 : Rd) (e1 : rWant en r 3 ⟨#[91]⟩ = q1) (e2 : rWordFrom en q1.2 0 rOpWords = (k, r2)) (e3 : rKey en r2 = (s, r3)) (h : RS bx en w r) (hk : k = 1 ∨ k = 3) :
    Calls Tryz.prog 44 #[.pointer (some ⟨bx, 0, none⟩)] w (OpPost bx en w (k, s, (rWant en r3 2 ⟨#[]⟩).1.2.2.2, [], false, false) (rWant en (rWant en r3 2 ⟨#[]⟩).2 3 ⟨#[93]⟩).2) := by
  have hlt := h.lt
  have F3 := tokf3
  have A0 := hid (oc_new w 0 ⟨#[]⟩ 0 (.slice none 0 0) false false)
  have H0 : Hid (∀ o, RS bx en (w.alloc o) r) := fun o => rs_new h o
  have E1 := hid e1
  have E2 := hid e2
  have E3 := hid e3
  have HK := hid hk
  clear h e1 e2 e3 hk
  go_enter Tryz.func44, Tryz.ntmps44
  go_wp2_with fail
  go_at_call 18
  refine (want_any _ _ _ _ _ _ (H0.out _)).mono ?_
  rintro e w1 ⟨rfl, h1, b1⟩
  rw [E1.out] at h1
  have A1 := hid (A0.out.beside b1 (by omega))
  have B1 : Hid (Beside bx w w1) := (Beside.of_below (below_box w _)).trans b1
  have H1 := hid h1
  have hs1 : w.heap.size < w1.heap.size := A1.out.lt
  clear h1 b1 A0 H0
  go_wp2_with fail
  go_at_call 43
  refine (rword_any bx w1.heap.size en _ rOpWords _ (by simp) (rs_new H1.out _) (fun j x hx => (new_cells w1 _ _ j).trans (by match j, hx with | 0, hx => (cases hx; rfl) | 1, hx => (cases hx; rfl) | 2, hx => (cases hx; rfl) | 3, hx => (cases hx; rfl) | (j + 4), hx => (simp at hx)))).mono ?_
  rintro e w2 ⟨rfl, h2, b2⟩
  rw [E2.out] at h2 ⊢
  simp only at h2
  have A2 := hid ((A1.out.beside (Beside.of_below (bx := bx) (below_box w1 _)) (by omega)).beside b2 (by omega))
  have B2 : Hid (Beside bx w w2) := B1.out.trans ((Beside.of_below (below_box w1 _)).trans b2)
  have hs2 : w1.heap.size < w2.heap.size := Nat.lt_of_lt_of_le (by simp) b2.size
  have H2 := hid h2
  clear h2 b2 A1 B1 H1
  have O2 := hid (oc_new w2 k ⟨#[]⟩ 0 (.slice none 0 0) false false)
  go_wp2_with fail
  go_at_call 71
  refine (key_any _ _ _ _ (rs_new H2.out _)).mono ?_
  rintro e w3 ⟨rfl, h3, b3⟩
  rw [E3.out] at h3 ⊢
  simp only at h3
  have A3 := hid ((A2.out.beside (Beside.of_below (bx := bx) (below_box w2 _)) (by omega)).beside b3 (by omega))
  have O3 := hid (O2.out.beside b3 (by omega))
  have B3 : Hid (Beside bx w w3) := B2.out.trans ((Beside.of_below (below_box w2 _)).trans b3)
  have H3 := hid h3
  clear h3 b3 A2 O2 B2 H2
  have q0 := O3.out.c0
  have q1 := O3.out.c1
  have y1 := O3.out.z1
  have O4 := hid (O3.out.set1 s)
  have H4 := hid (rs_set (i := 1) (g := w2.heap.size) H3.out (by omega) (.string s))
  have B4 : Hid (Beside bx w (w3.setCell ⟨w2.heap.size, 1, none⟩ (.string s))) := B3.out.setNew (p := ⟨w2.heap.size, 1, none⟩) (by simp; omega) _
  have hk := HK.out
  have A4 := hid (A3.out.other (g := w2.heap.size) (i := 1) (by omega) (.string s))
  have hs4 : w2.heap.size < (w3.setCell ⟨w2.heap.size, 1, none⟩ (.string s)).heap.size := O4.out.lt
  clear A3 O3 B3 H3
  have HW := hid (fun W hW => want_any bx en r3 2 ⟨#[]⟩ W hW)
  generalize rWant en r3 2 ⟨#[]⟩ = q4 at *
  obtain ⟨⟨ta, tb, tc, td⟩, r4⟩ := q4
  have i1 : True := trivial
  have i2 : True := trivial
  rcases hk with rfl | rfl
  all_goals
    go_wp2_with (first | (go_at_call 17; refine (is_any _ _ _ _ _ _ H4.out).mono ?_; rintro e w' ⟨rfl, rfl⟩; first | rw [i1] | rw [i2]))
    go_at_call 18
    refine (HW.out _ H4.out).mono ?_
    rintro e w5 ⟨he, h5, b5⟩
    simp only [tokV] at he
    subst he
    have A5 := hid (A4.out.beside b5 (by omega))
    have O5 := hid (O4.out.beside b5 (by omega))
    have B5 : Hid (Beside bx w w5) := B4.out.trans b5
    have H5 := hid h5
    clear h5 b5 A4 O4 B4 H4 q0 q1 y1
    obtain ⟨x0, x1, x2, x3, x4, x5, y0, y1, y2, y3, y4, y5⟩ := O5.out
    have A6 := hid ((A5.out).other (g := w2.heap.size) (i := 2) (by omega) (.int .i64 td))
    have O6 := hid ((O5.out).set2 td)
    have H6 := hid (rs_set (i := 2) (g := w2.heap.size) (H5.out) (by omega) (.int .i64 td))
    have B6 : Hid (Beside bx w (w5.setCell ⟨w2.heap.size, 2, none⟩ (.int .i64 td))) := (B5.out).setNew (p := ⟨w2.heap.size, 2, none⟩) (by simp; omega) (.int .i64 td)
    clear A5 O5 B5 H5
    go_wp2_with (first | (go_at_call 17; refine (is_any _ _ _ _ _ _ H6.out).mono ?_; rintro e w' ⟨rfl, rfl⟩; first | rw [i1] | rw [i2]))
    go_at_call 18
    refine (want_any _ _ _ _ _ _ H6.out).mono ?_
    rintro e w7 ⟨rfl, h7, b7⟩
    have A7 := hid (A6.out.beside b7 (by omega))
    have O7 := hid (O6.out.beside b7 (by omega))
    have B7 : Hid (Beside bx w w7) := B6.out.trans b7
    have H7 := hid h7
    clear h7 b7 A6 O6 B6 H6
    obtain ⟨o0, o1, o2, o3, o4, o5, p0, p1, p2, p3, p4, p5⟩ := O7.out
    obtain ⟨a0, a1, a2, a3, a4, a5, z0, z1, z2, z3, z4, z5⟩ := A7.out
    clear O7
    go_wp2_with fail
    refine bodyPost_ret (v := .agg #[_, _, _, _, _, _]) (by simp [results, Tryz.results44, go_sem, a0, a1, a2, a3, a4, a5]) rfl ⟨_, rfl, ints_none _ _, rs_put6 H7.out (by omega) _ _ _ _ _ _, be_put6 B7.out (Nat.le_refl _) _ _ _ _ _ _⟩
set_option maxHeartbeats 4000000 in
set_option maxRecDepth 100000 in
theorem op_0 (bx : Nat) (en : Int) (r : Rd) (w : World) (q1 : MTok × Rd) (k : Int) (r2 : Rd) (s : ByteArray) (r3 : Rd) (e1 : rWant en r 3 ⟨#[91]⟩ = q1) (e2 : rWordFrom en q1.2 0 rOpWords = (k, r2)) (e3 : rKey en r2 = (s, r3)) (h : RS bx en w r) (hk : k = 0) :
    Calls Tryz.prog 44 #[.pointer (some ⟨bx, 0, none⟩)] w (OpPost bx en w (k, s, 0, [], false, false) (rWant en r3 3 ⟨#[93]⟩).2) := by
  have hlt := h.lt
  have F3 := tokf3
  have A0 := hid (oc_new w 0 ⟨#[]⟩ 0 (.slice none 0 0) false false)
  have H0 : Hid (∀ o, RS bx en (w.alloc o) r) := fun o => rs_new h o
  have E1 := hid e1
  have E2 := hid e2
  have E3 := hid e3
  have HK := hid hk
  clear h e1 e2 e3 hk
  go_enter Tryz.func44, Tryz.ntmps44
  go_wp2_with fail
  go_at_call 18
  refine (want_any _ _ _ _ _ _ (H0.out _)).mono ?_
  rintro e w1 ⟨rfl, h1, b1⟩
  rw [E1.out] at h1
  have A1 := hid (A0.out.beside b1 (by omega))
  have B1 : Hid (Beside bx w w1) := (Beside.of_below (below_box w _)).trans b1
  have H1 := hid h1
  have hs1 : w.heap.size < w1.heap.size := A1.out.lt
  clear h1 b1 A0 H0
  go_wp2_with fail
  go_at_call 43
  refine (rword_any bx w1.heap.size en _ rOpWords _ (by simp) (rs_new H1.out _) (fun j x hx => (new_cells w1 _ _ j).trans (by match j, hx with | 0, hx => (cases hx; rfl) | 1, hx => (cases hx; rfl) | 2, hx => (cases hx; rfl) | 3, hx => (cases hx; rfl) | (j + 4), hx => (simp at hx)))).mono ?_
  rintro e w2 ⟨rfl, h2, b2⟩
  rw [E2.out] at h2 ⊢
  simp only at h2
  have A2 := hid ((A1.out.beside (Beside.of_below (bx := bx) (below_box w1 _)) (by omega)).beside b2 (by omega))
  have B2 : Hid (Beside bx w w2) := B1.out.trans ((Beside.of_below (below_box w1 _)).trans b2)
  have hs2 : w1.heap.size < w2.heap.size := Nat.lt_of_lt_of_le (by simp) b2.size
  have H2 := hid h2
  clear h2 b2 A1 B1 H1
  have O2 := hid (oc_new w2 k ⟨#[]⟩ 0 (.slice none 0 0) false false)
  go_wp2_with fail
  go_at_call 71
  refine (key_any _ _ _ _ (rs_new H2.out _)).mono ?_
  rintro e w3 ⟨rfl, h3, b3⟩
  rw [E3.out] at h3 ⊢
  simp only at h3
  have A3 := hid ((A2.out.beside (Beside.of_below (bx := bx) (below_box w2 _)) (by omega)).beside b3 (by omega))
  have O3 := hid (O2.out.beside b3 (by omega))
  have B3 : Hid (Beside bx w w3) := B2.out.trans ((Beside.of_below (below_box w2 _)).trans b3)
  have H3 := hid h3
  clear h3 b3 A2 O2 B2 H2
  have q0 := O3.out.c0
  have q1 := O3.out.c1
  have y1 := O3.out.z1
  have O4 := hid (O3.out.set1 s)
  have H4 := hid (rs_set (i := 1) (g := w2.heap.size) H3.out (by omega) (.string s))
  have B4 : Hid (Beside bx w (w3.setCell ⟨w2.heap.size, 1, none⟩ (.string s))) := B3.out.setNew (p := ⟨w2.heap.size, 1, none⟩) (by simp; omega) _
  have hk := HK.out
  have A4 := hid (A3.out.other (g := w2.heap.size) (i := 1) (by omega) (.string s))
  have hs4 : w2.heap.size < (w3.setCell ⟨w2.heap.size, 1, none⟩ (.string s)).heap.size := O4.out.lt
  clear A3 O3 B3 H3
  have i1 : True := trivial
  have i2 : True := trivial
  subst hk
  have A6 := A4
  have O6 := O4
  have H6 := H4
  have B6 := B4
  clear A4 O4 H4 B4
  go_wp2_with (first | (go_at_call 17; refine (is_any _ _ _ _ _ _ H6.out).mono ?_; rintro e w' ⟨rfl, rfl⟩; first | rw [i1] | rw [i2]))
  go_at_call 18
  refine (want_any _ _ _ _ _ _ H6.out).mono ?_
  rintro e w7 ⟨rfl, h7, b7⟩
  have A7 := hid (A6.out.beside b7 (by omega))
  have O7 := hid (O6.out.beside b7 (by omega))
  have B7 : Hid (Beside bx w w7) := B6.out.trans b7
  have H7 := hid h7
  clear h7 b7 A6 O6 B6 H6
  obtain ⟨o0, o1, o2, o3, o4, o5, p0, p1, p2, p3, p4, p5⟩ := O7.out
  obtain ⟨a0, a1, a2, a3, a4, a5, z0, z1, z2, z3, z4, z5⟩ := A7.out
  clear O7
  go_wp2_with fail
  refine bodyPost_ret (v := .agg #[_, _, _, _, _, _]) (by simp [results, Tryz.results44, go_sem, a0, a1, a2, a3, a4, a5]) rfl ⟨_, rfl, ints_none _ _, rs_put6 H7.out (by omega) _ _ _ _ _ _, be_put6 B7.out (Nat.le_refl _) _ _ _ _ _ _⟩
set_option maxHeartbeats 4000000 in
set_option maxRecDepth 100000 in
theorem op_4nil (bx : Nat) (en : Int) (r : Rd) (w : World) (q1 : MTok × Rd) (k : Int) (r2 : Rd) (s : ByteArray) (r3 : Rd) (e1 : rWant en r 3 ⟨#[91]⟩ = q1) (e2 : rWordFrom en q1.2 0 rOpWords = (k, r2)) (e3 : rKey en r2 = (s, r3)) (h : RS bx en w r) (hk : k = 4) (i1 : rIs r3 1 ⟨#[110, 105, 108]⟩ = true) :
    Calls Tryz.prog 44 #[.pointer (some ⟨bx, 0, none⟩)] w (OpPost bx en w (k, s, 0, [], true, true) (rWant en (rWant en r3 1 ⟨#[110, 105, 108]⟩).2 3 ⟨#[93]⟩).2) := by
  have hlt := h.lt
  have F3 := tokf3
  have A0 := hid (oc_new w 0 ⟨#[]⟩ 0 (.slice none 0 0) false false)
  have H0 : Hid (∀ o, RS bx en (w.alloc o) r) := fun o => rs_new h o
  have E1 := hid e1
  have E2 := hid e2
  have E3 := hid e3
  have HK := hid hk
  clear h e1 e2 e3 hk
  go_enter Tryz.func44, Tryz.ntmps44
  go_wp2_with fail
  go_at_call 18
  refine (want_any _ _ _ _ _ _ (H0.out _)).mono ?_
  rintro e w1 ⟨rfl, h1, b1⟩
  rw [E1.out] at h1
  have A1 := hid (A0.out.beside b1 (by omega))
  have B1 : Hid (Beside bx w w1) := (Beside.of_below (below_box w _)).trans b1
  have H1 := hid h1
  have hs1 : w.heap.size < w1.heap.size := A1.out.lt
  clear h1 b1 A0 H0
  go_wp2_with fail
  go_at_call 43
  refine (rword_any bx w1.heap.size en _ rOpWords _ (by simp) (rs_new H1.out _) (fun j x hx => (new_cells w1 _ _ j).trans (by match j, hx with | 0, hx => (cases hx; rfl) | 1, hx => (cases hx; rfl) | 2, hx => (cases hx; rfl) | 3, hx => (cases hx; rfl) | (j + 4), hx => (simp at hx)))).mono ?_
  rintro e w2 ⟨rfl, h2, b2⟩
  rw [E2.out] at h2 ⊢
  simp only at h2
  have A2 := hid ((A1.out.beside (Beside.of_below (bx := bx) (below_box w1 _)) (by omega)).beside b2 (by omega))
  have B2 : Hid (Beside bx w w2) := B1.out.trans ((Beside.of_below (below_box w1 _)).trans b2)
  have hs2 : w1.heap.size < w2.heap.size := Nat.lt_of_lt_of_le (by simp) b2.size
  have H2 := hid h2
  clear h2 b2 A1 B1 H1
  have O2 := hid (oc_new w2 k ⟨#[]⟩ 0 (.slice none 0 0) false false)
  go_wp2_with fail
  go_at_call 71
  refine (key_any _ _ _ _ (rs_new H2.out _)).mono ?_
  rintro e w3 ⟨rfl, h3, b3⟩
  rw [E3.out] at h3 ⊢
  simp only at h3
  have A3 := hid ((A2.out.beside (Beside.of_below (bx := bx) (below_box w2 _)) (by omega)).beside b3 (by omega))
  have O3 := hid (O2.out.beside b3 (by omega))
  have B3 : Hid (Beside bx w w3) := B2.out.trans ((Beside.of_below (below_box w2 _)).trans b3)
  have H3 := hid h3
  clear h3 b3 A2 O2 B2 H2
  have q0 := O3.out.c0
  have q1 := O3.out.c1
  have y1 := O3.out.z1
  have O4 := hid (O3.out.set1 s)
  have H4 := hid (rs_set (i := 1) (g := w2.heap.size) H3.out (by omega) (.string s))
  have B4 : Hid (Beside bx w (w3.setCell ⟨w2.heap.size, 1, none⟩ (.string s))) := B3.out.setNew (p := ⟨w2.heap.size, 1, none⟩) (by simp; omega) _
  have hk := HK.out
  have A4 := hid (A3.out.other (g := w2.heap.size) (i := 1) (by omega) (.string s))
  have hs4 : w2.heap.size < (w3.setCell ⟨w2.heap.size, 1, none⟩ (.string s)).heap.size := O4.out.lt
  clear A3 O3 B3 H3
  have HW := hid (fun W hW => want_any bx en r3 1 ⟨#[110, 105, 108]⟩ W hW)
  generalize rWant en r3 1 ⟨#[110, 105, 108]⟩ = q4 at *
  obtain ⟨⟨ta, tb, tc, td⟩, r4⟩ := q4
  have i2 : True := trivial
  subst hk
  go_wp2_with (first | (go_at_call 17; refine (is_any _ _ _ _ _ _ H4.out).mono ?_; rintro e w' ⟨rfl, rfl⟩; first | rw [i1] | rw [i2]))
  go_at_call 18
  refine (HW.out _ H4.out).mono ?_
  rintro e w5 ⟨he, h5, b5⟩
  simp only [tokV] at he
  subst he
  have A5 := hid (A4.out.beside b5 (by omega))
  have O5 := hid (O4.out.beside b5 (by omega))
  have B5 : Hid (Beside bx w w5) := B4.out.trans b5
  have H5 := hid h5
  clear h5 b5 A4 O4 B4 H4 q0 q1 y1
  obtain ⟨x0, x1, x2, x3, x4, x5, y0, y1, y2, y3, y4, y5⟩ := O5.out
  have A6 := hid (((A5.out).other (g := w2.heap.size) (i := 4) (by omega) (.bool true)).other (g := w2.heap.size) (i := 5) (by omega) (.bool true))
  have O6 := hid (((O5.out).set4 true).set5 true)
  have H6 := hid (rs_set (i := 5) (g := w2.heap.size) (rs_set (i := 4) (g := w2.heap.size) (H5.out) (by omega) (.bool true)) (by omega) (.bool true))
  have B6 : Hid (Beside bx w ((w5.setCell ⟨w2.heap.size, 4, none⟩ (.bool true)).setCell ⟨w2.heap.size, 5, none⟩ (.bool true))) := ((B5.out).setNew (p := ⟨w2.heap.size, 4, none⟩) (by simp; omega) (.bool true)).setNew (p := ⟨w2.heap.size, 5, none⟩) (by simp; omega) (.bool true)
  clear A5 O5 B5 H5
  go_wp2_with (first | (go_at_call 17; refine (is_any _ _ _ _ _ _ H6.out).mono ?_; rintro e w' ⟨rfl, rfl⟩; first | rw [i1] | rw [i2]))
  go_at_call 18
  refine (want_any _ _ _ _ _ _ H6.out).mono ?_
  rintro e w7 ⟨rfl, h7, b7⟩
  have A7 := hid (A6.out.beside b7 (by omega))
  have O7 := hid (O6.out.beside b7 (by omega))
  have B7 : Hid (Beside bx w w7) := B6.out.trans b7
  have H7 := hid h7
  clear h7 b7 A6 O6 B6 H6
  obtain ⟨o0, o1, o2, o3, o4, o5, p0, p1, p2, p3, p4, p5⟩ := O7.out
  obtain ⟨a0, a1, a2, a3, a4, a5, z0, z1, z2, z3, z4, z5⟩ := A7.out
  clear O7
  go_wp2_with fail
  refine bodyPost_ret (v := .agg #[_, _, _, _, _, _]) (by simp [results, Tryz.results44, go_sem, a0, a1, a2, a3, a4, a5]) rfl ⟨_, rfl, ints_none _ _, rs_put6 H7.out (by omega) _ _ _ _ _ _, be_put6 B7.out (Nat.le_refl _) _ _ _ _ _ _⟩
set_option maxHeartbeats 4000000 in
set_option maxRecDepth 100000 in
theorem op_4num (bx : Nat) (en : Int) (r : Rd) (w : World) (q1 : MTok × Rd) (k : Int) (r2 : Rd) (s : ByteArray) (r3 : Rd) (e1 : rWant en r 3 ⟨#[91]⟩ = q1) (e2 : rWordFrom en q1.2 0 rOpWords = (k, r2)) (e3 : rKey en r2 = (s, r3)) (h : RS bx en w r) (hk : k = 4) (i1 : rIs r3 1 ⟨#[110, 105, 108]⟩ = false) (i2 : rIs r3 2 ⟨#[]⟩ = true) :
    Calls Tryz.prog 44 #[.pointer (some ⟨bx, 0, none⟩)] w (OpPost bx en w (k, s, (rWant en r3 2 ⟨#[]⟩).1.2.2.2, [], true, false) (rWant en (rWant en r3 2 ⟨#[]⟩).2 3 ⟨#[93]⟩).2) := by
  have hlt := h.lt
  have F3 := tokf3
  have A0 := hid (oc_new w 0 ⟨#[]⟩ 0 (.slice none 0 0) false false)
  have H0 : Hid (∀ o, RS bx en (w.alloc o) r) := fun o => rs_new h o
  have E1 := hid e1
  have E2 := hid e2
  have E3 := hid e3
  have HK := hid hk
  clear h e1 e2 e3 hk
  go_enter Tryz.func44, Tryz.ntmps44
  go_wp2_with fail
  go_at_call 18
  refine (want_any _ _ _ _ _ _ (H0.out _)).mono ?_
  rintro e w1 ⟨rfl, h1, b1⟩
  rw [E1.out] at h1
  have A1 := hid (A0.out.beside b1 (by omega))
  have B1 : Hid (Beside bx w w1) := (Beside.of_below (below_box w _)).trans b1
  have H1 := hid h1
  have hs1 : w.heap.size < w1.heap.size := A1.out.lt
  clear h1 b1 A0 H0
  go_wp2_with fail
  go_at_call 43
  refine (rword_any bx w1.heap.size en _ rOpWords _ (by simp) (rs_new H1.out _) (fun j x hx => (new_cells w1 _ _ j).trans (by match j, hx with | 0, hx => (cases hx; rfl) | 1, hx => (cases hx; rfl) | 2, hx => (cases hx; rfl) | 3, hx => (cases hx; rfl) | (j + 4), hx => (simp at hx)))).mono ?_
  rintro e w2 ⟨rfl, h2, b2⟩
  rw [E2.out] at h2 ⊢
  simp only at h2
  have A2 := hid ((A1.out.beside (Beside.of_below (bx := bx) (below_box w1 _)) (by omega)).beside b2 (by omega))
  have B2 : Hid (Beside bx w w2) := B1.out.trans ((Beside.of_below (below_box w1 _)).trans b2)
  have hs2 : w1.heap.size < w2.heap.size := Nat.lt_of_lt_of_le (by simp) b2.size
  have H2 := hid h2
  clear h2 b2 A1 B1 H1
  have O2 := hid (oc_new w2 k ⟨#[]⟩ 0 (.slice none 0 0) false false)
  go_wp2_with fail
  go_at_call 71
  refine (key_any _ _ _ _ (rs_new H2.out _)).mono ?_
  rintro e w3 ⟨rfl, h3, b3⟩
  rw [E3.out] at h3 ⊢
  simp only at h3
  have A3 := hid ((A2.out.beside (Beside.of_below (bx := bx) (below_box w2 _)) (by omega)).beside b3 (by omega))
  have O3 := hid (O2.out.beside b3 (by omega))
  have B3 : Hid (Beside bx w w3) := B2.out.trans ((Beside.of_below (below_box w2 _)).trans b3)
  have H3 := hid h3
  clear h3 b3 A2 O2 B2 H2
  have q0 := O3.out.c0
  have q1 := O3.out.c1
  have y1 := O3.out.z1
  have O4 := hid (O3.out.set1 s)
  have H4 := hid (rs_set (i := 1) (g := w2.heap.size) H3.out (by omega) (.string s))
  have B4 : Hid (Beside bx w (w3.setCell ⟨w2.heap.size, 1, none⟩ (.string s))) := B3.out.setNew (p := ⟨w2.heap.size, 1, none⟩) (by simp; omega) _
  have hk := HK.out
  have A4 := hid (A3.out.other (g := w2.heap.size) (i := 1) (by omega) (.string s))
  have hs4 : w2.heap.size < (w3.setCell ⟨w2.heap.size, 1, none⟩ (.string s)).heap.size := O4.out.lt
  clear A3 O3 B3 H3
  have HW := hid (fun W hW => want_any bx en r3 2 ⟨#[]⟩ W hW)
  generalize rWant en r3 2 ⟨#[]⟩ = q4 at *
  obtain ⟨⟨ta, tb, tc, td⟩, r4⟩ := q4
  subst hk
  go_wp2_with (first | (go_at_call 17; refine (is_any _ _ _ _ _ _ H4.out).mono ?_; rintro e w' ⟨rfl, rfl⟩; first | rw [i1] | rw [i2]))
  go_at_call 18
  refine (HW.out _ H4.out).mono ?_
  rintro e w5 ⟨he, h5, b5⟩
  simp only [tokV] at he
  subst he
  have A5 := hid (A4.out.beside b5 (by omega))
  have O5 := hid (O4.out.beside b5 (by omega))
  have B5 : Hid (Beside bx w w5) := B4.out.trans b5
  have H5 := hid h5
  clear h5 b5 A4 O4 B4 H4 q0 q1 y1
  obtain ⟨x0, x1, x2, x3, x4, x5, y0, y1, y2, y3, y4, y5⟩ := O5.out
  have A6 := hid (((A5.out).other (g := w2.heap.size) (i := 4) (by omega) (.bool true)).other (g := w2.heap.size) (i := 2) (by omega) (.int .i64 td))
  have O6 := hid (((O5.out).set4 true).set2 td)
  have H6 := hid (rs_set (i := 2) (g := w2.heap.size) (rs_set (i := 4) (g := w2.heap.size) (H5.out) (by omega) (.bool true)) (by omega) (.int .i64 td))
  have B6 : Hid (Beside bx w ((w5.setCell ⟨w2.heap.size, 4, none⟩ (.bool true)).setCell ⟨w2.heap.size, 2, none⟩ (.int .i64 td))) := ((B5.out).setNew (p := ⟨w2.heap.size, 4, none⟩) (by simp; omega) (.bool true)).setNew (p := ⟨w2.heap.size, 2, none⟩) (by simp; omega) (.int .i64 td)
  clear A5 O5 B5 H5
  go_wp2_with (first | (go_at_call 17; refine (is_any _ _ _ _ _ _ H6.out).mono ?_; rintro e w' ⟨rfl, rfl⟩; first | rw [i1] | rw [i2]))
  go_at_call 18
  refine (want_any _ _ _ _ _ _ H6.out).mono ?_
  rintro e w7 ⟨rfl, h7, b7⟩
  have A7 := hid (A6.out.beside b7 (by omega))
  have O7 := hid (O6.out.beside b7 (by omega))
  have B7 : Hid (Beside bx w w7) := B6.out.trans b7
  have H7 := hid h7
  clear h7 b7 A6 O6 B6 H6
  obtain ⟨o0, o1, o2, o3, o4, o5, p0, p1, p2, p3, p4, p5⟩ := O7.out
  obtain ⟨a0, a1, a2, a3, a4, a5, z0, z1, z2, z3, z4, z5⟩ := A7.out
  clear O7
  go_wp2_with fail
  refine bodyPost_ret (v := .agg #[_, _, _, _, _, _]) (by simp [results, Tryz.results44, go_sem, a0, a1, a2, a3, a4, a5]) rfl ⟨_, rfl, ints_none _ _, rs_put6 H7.out (by omega) _ _ _ _ _ _, be_put6 B7.out (Nat.le_refl _) _ _ _ _ _ _⟩
set_option maxHeartbeats 4000000 in
set_option maxRecDepth 100000 in
theorem op_4no (bx : Nat) (en : Int) (r : Rd) (w : World) (q1 : MTok × Rd) (k : Int) (r2 : Rd) (s : ByteArray) (r3 : Rd) (e1 : rWant en r 3 ⟨#[91]⟩ = q1) (e2 : rWordFrom en q1.2 0 rOpWords = (k, r2)) (e3 : rKey en r2 = (s, r3)) (h : RS bx en w r) (hk : k = 4) (i1 : rIs r3 1 ⟨#[110, 105, 108]⟩ = false) (i2 : rIs r3 2 ⟨#[]⟩ = false) :
    Calls Tryz.prog 44 #[.pointer (some ⟨bx, 0, none⟩)] w (OpPost bx en w (k, s, 0, [], false, false) (rWant en r3 3 ⟨#[93]⟩).2) := by
  have hlt := h.lt
  have F3 := tokf3
  have A0 := hid (oc_new w 0 ⟨#[]⟩ 0 (.slice none 0 0) false false)
  have H0 : Hid (∀ o, RS bx en (w.alloc o) r) := fun o => rs_new h o
  have E1 := hid e1
  have E2 := hid e2
  have E3 := hid e3
  have HK := hid hk
  clear h e1 e2 e3 hk
  go_enter Tryz.func44, Tryz.ntmps44
  go_wp2_with fail
  go_at_call 18
  refine (want_any _ _ _ _ _ _ (H0.out _)).mono ?_
  rintro e w1 ⟨rfl, h1, b1⟩
  rw [E1.out] at h1
  have A1 := hid (A0.out.beside b1 (by omega))
  have B1 : Hid (Beside bx w w1) := (Beside.of_below (below_box w _)).trans b1
  have H1 := hid h1
  have hs1 : w.heap.size < w1.heap.size := A1.out.lt
  clear h1 b1 A0 H0
  go_wp2_with fail
  go_at_call 43
  refine (rword_any bx w1.heap.size en _ rOpWords _ (by simp) (rs_new H1.out _) (fun j x hx => (new_cells w1 _ _ j).trans (by match j, hx with | 0, hx => (cases hx; rfl) | 1, hx => (cases hx; rfl) | 2, hx => (cases hx; rfl) | 3, hx => (cases hx; rfl) | (j + 4), hx => (simp at hx)))).mono ?_
  rintro e w2 ⟨rfl, h2, b2⟩
  rw [E2.out] at h2 ⊢
  simp only at h2
  have A2 := hid ((A1.out.beside (Beside.of_below (bx := bx) (below_box w1 _)) (by omega)).beside b2 (by omega))
  have B2 : Hid (Beside bx w w2) := B1.out.trans ((Beside.of_below (below_box w1 _)).trans b2)
  have hs2 : w1.heap.size < w2.heap.size := Nat.lt_of_lt_of_le (by simp) b2.size
  have H2 := hid h2
  clear h2 b2 A1 B1 H1
  have O2 := hid (oc_new w2 k ⟨#[]⟩ 0 (.slice none 0 0) false false)
  go_wp2_with fail
  go_at_call 71
  refine (key_any _ _ _ _ (rs_new H2.out _)).mono ?_
  rintro e w3 ⟨rfl, h3, b3⟩
  rw [E3.out] at h3 ⊢
  simp only at h3
  have A3 := hid ((A2.out.beside (Beside.of_below (bx := bx) (below_box w2 _)) (by omega)).beside b3 (by omega))
  have O3 := hid (O2.out.beside b3 (by omega))
  have B3 : Hid (Beside bx w w3) := B2.out.trans ((Beside.of_below (below_box w2 _)).trans b3)
  have H3 := hid h3
  clear h3 b3 A2 O2 B2 H2
  have q0 := O3.out.c0
  have q1 := O3.out.c1
  have y1 := O3.out.z1
  have O4 := hid (O3.out.set1 s)
  have H4 := hid (rs_set (i := 1) (g := w2.heap.size) H3.out (by omega) (.string s))
  have B4 : Hid (Beside bx w (w3.setCell ⟨w2.heap.size, 1, none⟩ (.string s))) := B3.out.setNew (p := ⟨w2.heap.size, 1, none⟩) (by simp; omega) _
  have hk := HK.out
  have A4 := hid (A3.out.other (g := w2.heap.size) (i := 1) (by omega) (.string s))
  have hs4 : w2.heap.size < (w3.setCell ⟨w2.heap.size, 1, none⟩ (.string s)).heap.size := O4.out.lt
  clear A3 O3 B3 H3
  subst hk
  have A6 := A4
  have O6 := O4
  have H6 := H4
  have B6 := B4
  clear A4 O4 H4 B4
  go_wp2_with (first | (go_at_call 17; refine (is_any _ _ _ _ _ _ H6.out).mono ?_; rintro e w' ⟨rfl, rfl⟩; first | rw [i1] | rw [i2]))
  go_at_call 18
  refine (want_any _ _ _ _ _ _ H6.out).mono ?_
  rintro e w7 ⟨rfl, h7, b7⟩
  have A7 := hid (A6.out.beside b7 (by omega))
  have O7 := hid (O6.out.beside b7 (by omega))
  have B7 : Hid (Beside bx w w7) := B6.out.trans b7
  have H7 := hid h7
  clear h7 b7 A6 O6 B6 H6
  obtain ⟨o0, o1, o2, o3, o4, o5, p0, p1, p2, p3, p4, p5⟩ := O7.out
  obtain ⟨a0, a1, a2, a3, a4, a5, z0, z1, z2, z3, z4, z5⟩ := A7.out
  clear O7
  go_wp2_with fail
  refine bodyPost_ret (v := .agg #[_, _, _, _, _, _]) (by simp [results, Tryz.results44, go_sem, a0, a1, a2, a3, a4, a5]) rfl ⟨_, rfl, ints_none _ _, rs_put6 H7.out (by omega) _ _ _ _ _ _, be_put6 B7.out (Nat.le_refl _) _ _ _ _ _ _⟩
set_option maxHeartbeats 4000000 in
set_option maxRecDepth 100000 in
theorem op_2no (bx : Nat) (en : Int) (r : Rd) (w : World) (q1 : MTok × Rd) (k : Int) (r2 : Rd) (s : ByteArray) (r3 : Rd) (e1 : rWant en r 3 ⟨#[91]⟩ = q1) (e2 : rWordFrom en q1.2 0 rOpWords = (k, r2)) (e3 : rKey en r2 = (s, r3)) (h : RS bx en w r) (hk : k = 2) (i1 : rIs r3 3 ⟨#[40]⟩ = false) :
    Calls Tryz.prog 44 #[.pointer (some ⟨bx, 0, none⟩)] w (OpPost bx en w (k, s, 0, [], false, false) (rWant en r3 3 ⟨#[93]⟩).2) := by
  have hlt := h.lt
  have F3 := tokf3
  have A0 := hid (oc_new w 0 ⟨#[]⟩ 0 (.slice none 0 0) false false)
  have H0 : Hid (∀ o, RS bx en (w.alloc o) r) := fun o => rs_new h o
  have E1 := hid e1
  have E2 := hid e2
  have E3 := hid e3
  have HK := hid hk
  clear h e1 e2 e3 hk
  go_enter Tryz.func44, Tryz.ntmps44
  go_wp2_with fail
  go_at_call 18
  refine (want_any _ _ _ _ _ _ (H0.out _)).mono ?_
  rintro e w1 ⟨rfl, h1, b1⟩
  rw [E1.out] at h1
  have A1 := hid (A0.out.beside b1 (by omega))
  have B1 : Hid (Beside bx w w1) := (Beside.of_below (below_box w _)).trans b1
  have H1 := hid h1
  have hs1 : w.heap.size < w1.heap.size := A1.out.lt
  clear h1 b1 A0 H0
  go_wp2_with fail
  go_at_call 43
  refine (rword_any bx w1.heap.size en _ rOpWords _ (by simp) (rs_new H1.out _) (fun j x hx => (new_cells w1 _ _ j).trans (by match j, hx with | 0, hx => (cases hx; rfl) | 1, hx => (cases hx; rfl) | 2, hx => (cases hx; rfl) | 3, hx => (cases hx; rfl) | (j + 4), hx => (simp at hx)))).mono ?_
  rintro e w2 ⟨rfl, h2, b2⟩
  rw [E2.out] at h2 ⊢
  simp only at h2
  have A2 := hid ((A1.out.beside (Beside.of_below (bx := bx) (below_box w1 _)) (by omega)).beside b2 (by omega))
  have B2 : Hid (Beside bx w w2) := B1.out.trans ((Beside.of_below (below_box w1 _)).trans b2)
  have hs2 : w1.heap.size < w2.heap.size := Nat.lt_of_lt_of_le (by simp) b2.size
  have H2 := hid h2
  clear h2 b2 A1 B1 H1
  have O2 := hid (oc_new w2 k ⟨#[]⟩ 0 (.slice none 0 0) false false)
  go_wp2_with fail
  go_at_call 71
  refine (key_any _ _ _ _ (rs_new H2.out _)).mono ?_
  rintro e w3 ⟨rfl, h3, b3⟩
  rw [E3.out] at h3 ⊢
  simp only at h3
  have A3 := hid ((A2.out.beside (Beside.of_below (bx := bx) (below_box w2 _)) (by omega)).beside b3 (by omega))
  have O3 := hid (O2.out.beside b3 (by omega))
  have B3 : Hid (Beside bx w w3) := B2.out.trans ((Beside.of_below (below_box w2 _)).trans b3)
  have H3 := hid h3
  clear h3 b3 A2 O2 B2 H2
  have q0 := O3.out.c0
  have q1 := O3.out.c1
  have y1 := O3.out.z1
  have O4 := hid (O3.out.set1 s)
  have H4 := hid (rs_set (i := 1) (g := w2.heap.size) H3.out (by omega) (.string s))
  have B4 : Hid (Beside bx w (w3.setCell ⟨w2.heap.size, 1, none⟩ (.string s))) := B3.out.setNew (p := ⟨w2.heap.size, 1, none⟩) (by simp; omega) _
  have hk := HK.out
  have A4 := hid (A3.out.other (g := w2.heap.size) (i := 1) (by omega) (.string s))
  have hs4 : w2.heap.size < (w3.setCell ⟨w2.heap.size, 1, none⟩ (.string s)).heap.size := O4.out.lt
  clear A3 O3 B3 H3
  have i2 : True := trivial
  subst hk
  have A6 := A4
  have O6 := O4
  have H6 := H4
  have B6 := B4
  clear A4 O4 H4 B4
  go_wp2_with (first | (go_at_call 17; refine (is_any _ _ _ _ _ _ H6.out).mono ?_; rintro e w' ⟨rfl, rfl⟩; first | rw [i1] | rw [i2]))
  go_at_call 18
  refine (want_any _ _ _ _ _ _ H6.out).mono ?_
  rintro e w7 ⟨rfl, h7, b7⟩
  have A7 := hid (A6.out.beside b7 (by omega))
  have O7 := hid (O6.out.beside b7 (by omega))
  have B7 : Hid (Beside bx w w7) := B6.out.trans b7
  have H7 := hid h7
  clear h7 b7 A6 O6 B6 H6
  obtain ⟨o0, o1, o2, o3, o4, o5, p0, p1, p2, p3, p4, p5⟩ := O7.out
  obtain ⟨a0, a1, a2, a3, a4, a5, z0, z1, z2, z3, z4, z5⟩ := A7.out
  clear O7
  go_wp2_with fail
  refine bodyPost_ret (v := .agg #[_, _, _, _, _, _]) (by simp [results, Tryz.results44, go_sem, a0, a1, a2, a3, a4, a5]) rfl ⟨_, rfl, ints_none _ _, rs_put6 H7.out (by omega) _ _ _ _ _ _, be_put6 B7.out (Nat.le_refl _) _ _ _ _ _ _⟩
end Go.Proofs.YtegeiojcdjnmjaaGreatDoor
