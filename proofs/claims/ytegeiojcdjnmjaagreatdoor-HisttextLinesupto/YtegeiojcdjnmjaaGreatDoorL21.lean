/-
  The document's reader of tokens: a walk of op at a read with a list.
-/
import Derived.Test.YtegeiojcdjnmjaaGreatDoorL20
namespace Go.Proofs.YtegeiojcdjnmjaaGreatDoor
set_option linter.unusedVariables false
set_option linter.unusedSimpArgs false
open Go.RowKit

/-- The numbers with one more. -/
def AppI (bx B : Nat) (W V : World) (acc : List Int) (x : Int) (y : Value) : Prop := ∃ rows, OutInv 3 1 RI B V y (acc.length + 1) rows (acc ++ [x]) ∧ NearB bx B W V
/-- A read as it is read: its box ob. -/
structure LQ (bx : Nat) (en : Int) (w : World) (ob : Nat) (s : ByteArray) (wr : World) (rr : Rd) (acc : List Int) (lv : Value) (rows : List (List Value)) : Prop where
  rs : RS bx en wr rr
  oc : OC ob wr 2 s 0 lv true false
  ac : OC w.heap.size wr 0 ⟨#[]⟩ 0 (.slice none 0 0) false false
  be : Beside bx w wr
  out : OutInv 3 1 RI (ob + 1) wr lv acc.length rows acc
  size : ob + 1 ≤ wr.heap.size
theorem OC.same {o : Nat} {w w' : World} {k : Int} {s : ByteArray} {x : Int} {lv : Value} {h n : Bool} (H : OC o w k s x lv h n) (e : w'.heap[o]? = w.heap[o]?) : OC o w' k s x lv h n := by
  have c : ∀ i, w'.cell? ⟨o, i, none⟩ = w.cell? ⟨o, i, none⟩ := fun i => World.cell?_of_block (w := w) e
  have f : ∀ i, w'.frozen? ⟨o, i, none⟩ = w.frozen? ⟨o, i, none⟩ := fun i => by unfold World.frozen?; rw [e]
  exact ⟨(c 0).trans H.c0, (c 1).trans H.c1, (c 2).trans H.c2, (c 3).trans H.c3, (c 4).trans H.c4, (c 5).trans H.c5, (f 0).trans H.z0, (f 1).trans H.z1, (f 2).trans H.z2, (f 3).trans H.z3, (f 4).trans H.z4, (f 5).trans H.z5⟩
theorem LQ.final {bx ob : Nat} {en : Int} {w W V : World} {s : ByteArray} {rr r2 : Rd} {acc : List Int} {x : Int} {lv : Value} {rows : List (List Value)} {ya : Option Addr} {yc : Nat} (h : LQ bx en w ob s W rr acc lv rows) (ha : AppI bx (ob + 1) W V acc x (.slice ya (acc.length + 1) yc)) (hP : RS bx en V r2) (n1 : bx < ob) (n2 : w.heap.size < ob) (n3 : ob ≠ bx) (n4 : w.heap.size ≠ bx) :
    ∃ rows', LQ bx en w ob s (V.setCell ⟨ob, 3, none⟩ (.slice ya (acc.length + 1) yc)) r2 (acc ++ [x]) (.slice ya (acc ++ [x]).length yc) rows' := by
  obtain ⟨rows', q1, q2⟩ := ha
  have hlen : (acc ++ [x]).length = acc.length + 1 := by simp
  rw [hlen]
  refine ⟨rows', rs_set hP n1 _, (h.oc.same (q2.block ob (by omega) n3)).set3 _, (h.ac.same (q2.block _ (by omega) n4)).other (by omega) _, ?_, ?_, ?_⟩
  · exact Beside.setNew ⟨q2.os.trans h.be.os, q2.tape.trans h.be.tape, q2.output.trans h.be.output, Nat.le_trans h.be.size q2.size, fun b hb hn => (q2.block b (by omega) hn).trans (h.be.block b hb hn)⟩ (p := ⟨ob, 3, none⟩) (Nat.le_of_lt n2) _
  · rw [hlen]
    have hb : Beside ob V (V.setCell ⟨ob, 3, none⟩ (.slice ya (acc.length + 1) yc)) := (Beside.refl ob V).setCell (p := ⟨ob, 3, none⟩) rfl _
    exact q1.beside ri_keep hb (by omega)
  · simpa [World.setCell] using Nat.le_trans h.size q2.size
theorem wp_appendI {o : Oper} {A : Act} {K : Act → World → Prop} {Q : Exit → Act → World → Prop} (base : Nat) (V : World) (s x : Operand)
    (ho : o.op = .call { callee := .builtin .append, args := #[s, x], argTypes := #[72, 72] }) (out : Value) (n : Nat) (xs : List Value) (td : Int) (hs : A.eval s = out) (nb : Nat) (hx : A.eval x = .slice (some ⟨nb, 0, none⟩) 1 1) (hblk : V.heap[nb]? = some (.cells #[.int .i64 td] 3))
    (h1 : V.ownsRow base 3 1 out n xs) (hb : base ≤ V.heap.size) (hl : n ≤ 400000)
    (hK : ∀ g cap V', V'.ownsRow base 3 1 (.slice (some ⟨g, 0, none⟩) (n + 1) cap) (n + 1) (xs ++ [.int .i64 td]) → V.grownBy V' out.ownBlock → (out.ownBlock = some g ∨ g = V.heap.size) → K (A.put o.dst (.slice (some ⟨g, 0, none⟩) (n + 1) cap)) V') : o.wp Tryz.prog A V K Q := by
  obtain ⟨i0, hi0, hz0, hz1, hz2⟩ := info_parts Tryz.infoInt
  refine wp_append_lies V s x 72 ho base 3 i0 _ 1 8 Tryz.underlying72 hi0 hz0 hz1 hz2 rfl (by decide) out n xs hs h1 ⟨nb, 0, none⟩ 1 1 [.int .i64 td] hx rfl (World.news_of_block (cs := #[.int .i64 td]) (t := 3) (fr := (0, 0)) hblk) ?_ (by decide) (by unfold maxLen; omega) (by omega) (by omega) V.heap.size rfl ?_
  · intro u hu
    simp only [List.mem_cons, List.not_mem_nil, or_false] at hu
    subst hu; rfl
  · intro g cap V' q1 q2 q3 _
    exact hK g cap V' q1 q2 q3
def rM (rr : Rd) : Nat := if rr.2.isSome then 0 else rr.1.length + 1
/-- What is left of a list's reading. -/
def rLeft (l0 : List MTok) (rr : Rd) (acc : List Int) : Prop := rList l0 [] = (match rr.2 with | none => rList rr.1 acc | some _ => (acc, rr))
theorem left_done {l0 : List MTok} {rr : Rd} {acc : List Int} (e : rLeft l0 rr acc) (hi : rIs rr 2 ⟨#[]⟩ = false) : rList l0 [] = (acc, rr) := by
  unfold rLeft at e
  obtain ⟨l, f⟩ := rr
  cases f with
  | some f => exact e
  | none =>
    cases l with
    | nil => exact e
    | cons t l =>
      have hi' : tokIs t 2 ⟨#[]⟩ = false := hi
      simp only [rList, hi', Bool.false_eq_true, if_false] at e
      exact e
theorem left_more {l0 l : List MTok} {t : MTok} {acc : List Int} (e : rLeft l0 (t :: l, none) acc) (hi : tokIs t 2 ⟨#[]⟩ = true) (h : ¬ acc.length = 40) : rLeft l0 (l, none) (acc ++ [t.2.2.2]) := by
  unfold rLeft at *
  simp only [rList, hi, if_true, if_neg h] at e
  exact e
theorem left_full {l0 l : List MTok} {t : MTok} {acc : List Int} (e : rLeft l0 (t :: l, none) acc) (hi : tokIs t 2 ⟨#[]⟩ = true) (h : acc.length = 40) : rLeft l0 (t :: l, some (t.2.1, 4)) (acc ++ [0]) := by
  unfold rLeft at *
  simp only [rList, hi, if_true, if_pos h] at e
  exact e
set_option maxHeartbeats 4000000 in
set_option maxRecDepth 100000 in
theorem op_2list (bx : Nat) (en : Int) (r : Rd) (w : World) (q1 : MTok × Rd) (k : Int) (r2 : Rd) (s : ByteArray) (r3 : Rd) (e1 : rWant en r 3 ⟨#[91]⟩ = q1) (e2 : rWordFrom en q1.2 0 rOpWords = (k, r2)) (e3 : rKey en r2 = (s, r3)) (h : RS bx en w r) (hk : k = 2) (i1 : rIs r3 3 ⟨#[40]⟩ = true) :
    Calls Tryz.prog 44 #[.pointer (some ⟨bx, 0, none⟩)] w (OpPost bx en w (k, s, 0, (rList (rWant en r3 3 ⟨#[40]⟩).2.1 []).1, true, false) (rWant en (rWant en (rList (rWant en r3 3 ⟨#[40]⟩).2.1 []).2 3 ⟨#[41]⟩).2 3 ⟨#[93]⟩).2) := by
  have hlt := h.lt
  have F3 := tokf3
  have A0 := hid (oc_new w 0 ⟨#[]⟩ 0 (.slice none 0 0) false false)
  have H0 : Hid (∀ o, RS bx en (w.alloc o) r) := fun o => rs_new h o
  have E1 := hid e1
  have E2 := hid e2
  have E3 := hid e3
  have HK := hid hk
  clear h e1 e2 e3 hk
  go_enter Tryz.func44, Tryz.ntmps44
  go_wp2_with fail
  go_at_call 18
  refine (want_any _ _ _ _ _ _ (H0.out _)).mono ?_
  rintro e w1 ⟨rfl, h1, b1⟩
  rw [E1.out] at h1
  have A1 := hid (A0.out.beside b1 (by omega))
  have B1 : Hid (Beside bx w w1) := (Beside.of_below (below_box w _)).trans b1
  have H1 := hid h1
  have hs1 : w.heap.size < w1.heap.size := A1.out.lt
  clear h1 b1 A0 H0
  go_wp2_with fail
  go_at_call 43
  refine (rword_any bx w1.heap.size en _ rOpWords _ (by simp) (rs_new H1.out _) (fun j x hx => (new_cells w1 _ _ j).trans (by match j, hx with | 0, hx => (cases hx; rfl) | 1, hx => (cases hx; rfl) | 2, hx => (cases hx; rfl) | 3, hx => (cases hx; rfl) | (j + 4), hx => (simp at hx)))).mono ?_
  rintro e w2 ⟨rfl, h2, b2⟩
  rw [E2.out] at h2 ⊢
  simp only at h2
  have A2 := hid ((A1.out.beside (Beside.of_below (bx := bx) (below_box w1 _)) (by omega)).beside b2 (by omega))
  have B2 : Hid (Beside bx w w2) := B1.out.trans ((Beside.of_below (below_box w1 _)).trans b2)
  have hs2 : w1.heap.size < w2.heap.size := Nat.lt_of_lt_of_le (by simp) b2.size
  have H2 := hid h2
  clear h2 b2 A1 B1 H1
  have O2 := hid (oc_new w2 k ⟨#[]⟩ 0 (.slice none 0 0) false false)
  go_wp2_with fail
  go_at_call 71
  refine (key_any _ _ _ _ (rs_new H2.out _)).mono ?_
  rintro e w3 ⟨rfl, h3, b3⟩
  rw [E3.out] at h3 ⊢
  simp only at h3
  have A3 := hid ((A2.out.beside (Beside.of_below (bx := bx) (below_box w2 _)) (by omega)).beside b3 (by omega))
  have O3 := hid (O2.out.beside b3 (by omega))
  have B3 : Hid (Beside bx w w3) := B2.out.trans ((Beside.of_below (below_box w2 _)).trans b3)
  have H3 := hid h3
  clear h3 b3 A2 O2 B2 H2
  have q0 := O3.out.c0
  have q1 := O3.out.c1
  have y1 := O3.out.z1
  have O4 := hid (O3.out.set1 s)
  have H4 := hid (rs_set (i := 1) (g := w2.heap.size) H3.out (by omega) (.string s))
  have B4 : Hid (Beside bx w (w3.setCell ⟨w2.heap.size, 1, none⟩ (.string s))) := B3.out.setNew (p := ⟨w2.heap.size, 1, none⟩) (by simp; omega) _
  have hk := HK.out
  have A4 := hid (A3.out.other (g := w2.heap.size) (i := 1) (by omega) (.string s))
  have hs4 : w2.heap.size < (w3.setCell ⟨w2.heap.size, 1, none⟩ (.string s)).heap.size := O4.out.lt
  clear A3 O3 B3 H3
  have hk' := hk
  obtain ⟨t0, l0, rfl, ht0⟩ := rIs_true i1
  have hw0 : rWant en (t0 :: l0, none) 3 ⟨#[40]⟩ = (t0, (l0, none)) := by simp [rWant, ht0]
  rw [hw0]
  have HW0 := hid hw0
  clear hw0
  subst hk
  go_wp2_with (first | (go_at_call 17; refine (is_any _ _ _ _ _ _ H4.out).mono ?_; rintro e w' ⟨rfl, rfl⟩; rw [i1]))
  go_at_call 18
  refine (want_any _ _ _ _ _ _ H4.out).mono ?_
  rintro e w5 ⟨rfl, h5, b5⟩
  rw [HW0.out] at h5
  simp only at h5
  have A5 := hid (A4.out.beside b5 (by omega))
  have O5 := hid (O4.out.beside b5 (by omega))
  have B5 : Hid (Beside bx w w5) := B4.out.trans b5
  have H5 := hid h5
  clear h5 b5 A4 O4 B4 H4 q0 q1 y1
  have x4 := O5.out.c4
  have y4 := O5.out.z4
  obtain ⟨ob, hob⟩ : ∃ ob, ob = w2.heap.size := ⟨_, rfl⟩
  have hA2 : w.heap.size < w2.heap.size := by omega
  have LQI : Hid (LQ bx en w ob s (w5.setCell ⟨w2.heap.size, 4, none⟩ (.bool true)) (l0, none) [] (.slice none 0 0) []) := by
    have hlt5 := O5.out.lt
    show LQ _ _ _ _ _ _ _ _ _ _
    rw [hob]
    exact ⟨rs_set H5.out (by omega) _, O5.out.set4 true, A5.out.other (by omega) _, B5.out.setNew (p := ⟨w2.heap.size, 4, none⟩) (by simp; omega) _, OutInv.nil _ _ _ _ _, by simp [World.setCell]; omega⟩
  have nXO : bx < ob := by omega
  have nAO : w.heap.size < ob := by omega
  have nO1 : ob ≠ bx := by omega
  have nA1 : w.heap.size ≠ bx := by omega
  clear A5 O5 B5 H5
  go_wp2_with fail
  clear x4 y4
  go_loopg [45] (l0.length + 1) (fun m _ wr => ∃ (rr : Rd) (acc : List Int) (la : Option Addr) (lc : Nat) (rows : List (List Value)), rM rr ≤ m ∧ Aside (LQ bx en w ob s wr rr acc (.slice la acc.length lc) rows) ∧ Aside (rLeft l0 rr acc) ∧ acc.length ≤ 41 ∧ Aside (rr.2 = none → acc.length ≤ 40))
  case atStart => exact ⟨(l0, none), [], none, 0, [], by simp [rM], LQI.out, by show rLeft _ _ _; unfold rLeft; rfl, by simp, by show _ → _; simp⟩
  case round =>
    obtain ⟨rr, acc, la, lc, rows, hm, LQ0, EQ, hle, HLE⟩ := hrel
    cases hi2 : rIs rr 2 ⟨#[]⟩ with
    | false =>
      have HD := hid (left_done EQ.out hi2)
      go_wp2_with fail
      go_at_call 17
      refine (is_any _ _ _ _ _ _ LQ0.out.rs).mono ?_
      rintro e w' ⟨rfl, rfl⟩
      rw [hi2]
      go_wp2_with fail
      go_at_call 18
      refine (want_any _ _ _ _ _ _ LQ0.out.rs).mono ?_
      rintro e w6 ⟨rfl, h6, b6⟩
      have A6 := hid (LQ0.out.ac.beside b6 (by omega))
      have O6 := hid (LQ0.out.oc.beside b6 (by omega))
      have B6 : Hid (Beside bx w w6) := LQ0.out.be.trans b6
      have W6 := hid (LQ0.out.out.beside ri_keep b6 (by omega))
      have H6 := hid h6
      clear h6 b6
      go_wp2_with fail
      go_at_call 18
      refine (want_any _ _ _ _ _ _ H6.out).mono ?_
      rintro e w7 ⟨rfl, h7, b7⟩
      have A7 := hid (A6.out.beside b7 (by omega))
      have O7 := hid (O6.out.beside b7 (by omega))
      have B7 : Hid (Beside bx w w7) := B6.out.trans b7
      have W7 := hid (W6.out.beside ri_keep b7 (by omega))
      have H7 := hid h7
      clear h7 b7 A6 O6 B6 H6 W6
      rw [hob] at O7
      obtain ⟨o0, o1, o2, o3, o4, o5, p0, p1, p2, p3, p4, p5⟩ := O7.out
      obtain ⟨a0, a1, a2, a3, a4, a5, z0, z1, z2, z3, z4, z5⟩ := A7.out
      clear O7
      go_wp2_with fail
      rw [HW0.out]
      show bodyPost _ _ (OpPost bx en w (2, s, 0, (rList l0 []).1, true, false) (rWant en (rWant en (rList l0 []).2 3 ⟨#[41]⟩).2 3 ⟨#[93]⟩).2) _ _ _
      rw [HD.out]
      have hin := ((ints_of_out W7.out (by omega)).past (be_self6 w.heap.size w7 (.int .i64 2) (.string s) (.int .i64 0) (.slice la acc.length lc) (.bool true) (.bool false)) (by omega)).keep (T := fun b => w.heap.size ≤ b) (fun _ _ _ => rfl) (fun b _ hb => by omega)
      refine bodyPost_ret (v := .agg #[.int .i64 2, .string s, .int .i64 0, .slice la acc.length lc, .bool true, .bool false]) (by simp [results, Tryz.results44, go_sem, a0, a1, a2, a3, a4, a5]) rfl ⟨_, rfl, hin, rs_put6 H7.out (by omega) _ _ _ _ _ _, be_put6 B7.out (Nat.le_refl _) _ _ _ _ _ _⟩
    | true =>
      obtain ⟨t, l, rfl, htk⟩ := rIs_true hi2
      have h40le : acc.length ≤ 40 := HLE.out rfl
      have x3a := LQ0.out.oc.c3
      rw [hob] at x3a
      by_cases h40 : acc.length = 40
      · have h40i : ((acc.length : Int) == 40) = true := by rw [h40]; rfl
        have EQ2 := hid (left_full EQ.out htk h40)
        have hmm0 : rM ((t :: l, none) : Rd) = l.length + 1 + 1 := by simp [rM]
        have HM : Hid (0 < gk) := by show 0 < gk; omega
        go_wp2_with fail
        go_at_call 17
        refine (is_any _ _ _ _ _ _ LQ0.out.rs).mono ?_
        rintro e w' ⟨rfl, rfl⟩
        rw [hi2]
        go_wp2_with fail
        go_at_call 19
        refine (fail_any bx en 4 (t :: l, none) _ LQ0.out.rs).mono ?_
        rintro e W ⟨rfl, h6, b6⟩
        have LQa : Hid (LQ bx en w ob s W (t :: l, some (t.2.1, 4)) acc (.slice la acc.length lc) rows) := ⟨h6, LQ0.out.oc.beside b6 (by omega), LQ0.out.ac.beside b6 (by omega), LQ0.out.be.trans b6, LQ0.out.out.beside ri_keep b6 (by omega), Nat.le_trans LQ0.out.size b6.size⟩
        clear h6 b6 LQ0 x3a
        have LQ0 := LQa
        clear LQa
        obtain ⟨rr, hrr⟩ : ∃ rr : Rd, rr = (t :: l, some (t.2.1, 4)) := ⟨_, rfl⟩
        obtain ⟨r2, hr2⟩ : ∃ r2 : Rd, r2 = (t :: l, some (t.2.1, 4)) := ⟨_, rfl⟩
        rw [← hrr] at LQ0
        obtain ⟨ta, hta⟩ : ∃ ta : Int, ta = 0 := ⟨_, rfl⟩
        obtain ⟨tb, htb⟩ : ∃ tb : Int, tb = 0 := ⟨_, rfl⟩
        obtain ⟨tc, htc⟩ : ∃ tc : ByteArray, tc = ByteArray.empty := ⟨_, rfl⟩
        obtain ⟨td, htd⟩ : ∃ td : Int, td = 0 := ⟨_, rfl⟩
        have HWN : Hid (rWant en rr 2 ⟨#[]⟩ = ((ta, tb, tc, td), r2)) := by show _ = _; rw [hrr, hr2, hta, htb, htc, htd, rWant_st]
        rw [← hr2, ← htd] at EQ2
        have HR2 := hid hr2
        clear hrr hr2 hta htb htc htd
        go_wp2_with fail
        have OUT := hid LQ0.out.out
        have OUTB : Hid (∀ V, Beside bx W V → OutInv 3 1 RI (ob + 1) V (.slice la acc.length lc) acc.length rows acc) := fun V hb => LQ0.out.out.beside ri_keep hb (by omega)
        have SZ := hid LQ0.out.size
        have x3 := LQ0.out.oc.c3
        have OL := hid LQ0.out.oc.lt
        have RSD : Hid (RS bx en W.drew rr) := LQ0.out.rs.keep (below_drew1 (Below.refl _ _))
        refine wp_region_gen Tryz.mixedOrders (by kernel_rfl) (fun val => { tmps := #[_, _, _, _, _, _, _, _, _, _, _, _, _, _, _, _, _, _, _, _, _, _, _, _, _, _, _, _, _, _, _, _, _, _, _, _, _, _, _, _, _, _, _, _, _, _, _, _, _, _, _, _, val 0, val 1, val 2, val 3, val 4, val 5, val 6, val 7, _, _, _, _, _], defers := [] }) (fun i => match i with | 0 => u52 | 1 => u53 | 2 => u54 | 3 => u55 | 4 => u56 | 5 => u57 | 6 => u58 | 7 => u59 | 8 => undef | _ => undef) rfl (fun L V => (L 6 = false → Beside bx W V) ∧ (L 3 = false → RS bx en V rr) ∧ (L 3 = true → RS bx en V r2) ∧ (L 8 = true → ∃ ya yc rows2, LQ bx en w ob s V r2 (acc ++ [td]) (.slice ya (acc ++ [td]).length yc) rows2)) (fun L i y V => match i with | 0 => y = .pointer (some ⟨ob, 3, none⟩) | 1 => y = .slice la acc.length lc | 2 => y = .pointer (some ⟨bx, 0, none⟩) | 3 => y = .agg #[.int .i64 ta, .int .i64 tb, .string tc, .int .i64 td] | 4 => y = .int .i64 td | 5 => L 6 = false → ∃ nb, y = .slice (some ⟨nb, 0, none⟩) 1 1 ∧ V.heap[nb]? = some (.cells #[.int .i64 td] 3) | 6 => L 8 = false → AppI bx (ob + 1) W V acc td y | 7 => y = .pointer (some ⟨ob, 3, none⟩) | 8 => True | _ => True) ⟨fun _ => be_drew (Beside.refl bx W), fun _ => RSD.out, fun c => (by cases c), fun c => (by cases c)⟩ _ rfl ⟨?_, ?_, ?_, ?_, ?_, ?_, ?_, ?_, ?_, trivial⟩ ?_
        · refine gen_plain rfl (fun _ _ => rfl) (fun L val V hc hi hu hg hd => ?_)
          refine gdoes_value (v := .pointer (some ⟨ob, 3, none⟩)) ?_ rfl hg (fun j u hj hr => hr)
          simp [execOp, Act.eval, go_sem]
        · refine gen_plain rfl (fun _ _ => rfl) (fun L val V hc hi hu hg hd => ?_)
          have h0 : val 0 = .pointer (some ⟨ob, 3, none⟩) := depsG_get hd 0 (by kernel_rfl)
          have h6 : L 6 = false := wants_back hc 10 6 1 (by kernel_rfl) hi
          have e2 : V.cell? ⟨ob, 3, none⟩ = some (.slice la acc.length lc) := ((hg.1 h6).cell (p := ⟨ob, 3, none⟩) OL.out nO1).trans x3
          refine gdoes_value (v := .slice la acc.length lc) ?_ rfl hg (fun j u hj hr => hr)
          simp [execOp, Act.eval, go_sem, h0, e2]
        · refine gen_plain rfl (fun _ _ => rfl) (fun L val V hc hi hu hg hd => ?_)
          refine gdoes_value (v := .pointer (some ⟨bx, 0, none⟩)) ?_ rfl hg (fun j u hj hr => hr)
          simp [execOp, Act.eval, go_sem]
        · refine gen_plain rfl (fun _ _ => rfl) (fun L val V hc hi hu hg hd => ?_)
          have h2 : val 2 = .pointer (some ⟨bx, 0, none⟩) := depsG_get hd 2 (by kernel_rfl)
          have h6 : L 6 = false := wants_back hc 10 6 3 (by kernel_rfl) hi
          have h8 : L 8 = false := wants_back hc 10 8 3 (by kernel_rfl) hi
          have h5 : L 5 = false := wants_back hc 10 5 3 (by kernel_rfl) hi
          have hbW := hg.1 h6
          refine gdoes_call (f := 18) (args := #[.pointer (some ⟨bx, 0, none⟩), .int .i64 2, .string ⟨#[]⟩]) ?_ (want_any bx en rr 2 ⟨#[]⟩ V (hg.2.1 hi)) ?_
          · simp [execOp, Act.eval, go_sem, resolve, invoke, h2]
          · rintro e w' ⟨rfl, hr3, hb3⟩
            rw [HWN.out] at hr3 ⊢
            refine ⟨_, rfl, rfl, ⟨fun _ => hbW.trans hb3, fun c => (by rw [upB_self] at c; cases c), fun _ => hr3, fun c => (by rw [show upB L 3 8 = L 8 from rfl, h8] at c; cases c)⟩, ?_⟩
            intro j u hj hr
            match j, hj, hr with
            | 0, _, hr => exact hr
            | 1, _, hr => exact hr
            | 2, _, hr => exact hr
            | 3, hj, hr => rw [hi] at hj; cases hj
            | 4, _, hr => exact hr
            | 5, hj, hr => rw [h5] at hj; cases hj
            | 6, hj, hr => rw [h6] at hj; cases hj
            | 7, _, hr => exact hr
            | 8, _, hr => trivial
            | _ + 9, _, hr => trivial
        · refine gen_plain rfl (fun _ _ => rfl) (fun L val V hc hi hu hg hd => ?_)
          have h3 : val 3 = .agg #[.int .i64 ta, .int .i64 tb, .string tc, .int .i64 td] := depsG_get hd 3 (by kernel_rfl)
          refine gdoes_value (v := .int .i64 td) ?_ rfl hg (fun j u hj hr => hr)
          simp [execOp, Act.eval, go_sem, h3, F3]
        · refine gen_plain rfl (fun _ _ => rfl) (fun L val V hc hi hu hg hd => ?_)
          have h4 : val 4 = .int .i64 td := depsG_get hd 4 (by kernel_rfl)
          have o4 := depsG_on hd 4 (by kernel_rfl)
          have o3 := wants_done hc 10 4 3 (by kernel_rfl) o4
          have h6 : L 6 = false := wants_back hc 10 6 5 (by kernel_rfl) hi
          have h8 : L 8 = false := wants_back hc 10 8 5 (by kernel_rfl) hi
          have hbW := hg.1 h6
          have hbv : Below V.heap.size V (V.alloc (.cells #[.int .i64 td] 3)) := below_box V _
          refine gdoes_turn (v := .slice (some ⟨V.heap.size, 0, none⟩) 1 1) (w' := V.alloc (.cells #[.int .i64 td] 3)) ?_ (fun _ => ⟨V.heap.size, rfl, heap_alloc_new V _⟩) ⟨fun _ => hbW.trans (Beside.of_below hbv), fun c => (by rw [show upB L 5 3 = L 3 from rfl, o3] at c; cases c), fun _ => rs_new (hg.2.2.1 o3) _, fun c => (by rw [show upB L 5 8 = L 8 from rfl, h8] at c; cases c)⟩ ?_
          · simp [execOp, Act.eval, go_sem, h4]
          · intro j u hj hr
            match j, hj, hr with
            | 0, _, hr => exact hr
            | 1, _, hr => exact hr
            | 2, _, hr => exact hr
            | 3, _, hr => exact hr
            | 4, _, hr => exact hr
            | 5, hj, hr => rw [hi] at hj; cases hj
            | 6, hj, hr => rw [h6] at hj; cases hj
            | 7, _, hr => exact hr
            | 8, _, hr => trivial
            | _ + 9, _, hr => trivial
        · refine gen_plain rfl (fun _ _ => rfl) (fun L val V hc hi hu hg hd => ?_)
          have h1 : val 1 = .slice la acc.length lc := depsG_get hd 1 (by kernel_rfl)
          obtain ⟨nb, q2, q3⟩ := depsG_get hd 5 (by kernel_rfl) hi
          have o5 := depsG_on hd 5 (by kernel_rfl)
          have o3 := wants_done hc 10 5 3 (by kernel_rfl) o5
          have h8 : L 8 = false := wants_back hc 10 8 6 (by kernel_rfl) hi
          have hbW := hg.1 hi
          intro K hK
          refine wp_appendI (ob + 1) V _ _ rfl (.slice la acc.length lc) acc.length rows.flatten td (show val 1 = _ from h1) nb (show val 5 = _ from q2) q3 (OUTB.out V hbW).own (Nat.le_trans SZ.out hbW.size) (by omega) (fun g cap V' ho hgr hat => ?_)
          have hbb : Below (ob + 1) V V' := (Below.refl (ob + 1) V).grown hgr (Nat.le_trans SZ.out hbW.size) (fun b c => (OUT.out.own.lt b c).1)
          refine hK _ V' (fun _ => ⟨_, OUT.out.grow ri_keep SZ.out (by omega) hbW (row := [.int .i64 td]) (x := td) rfl rfl ho hgr hat, hbb.os.trans hbW.os, hbb.tape.trans hbW.tape, hbb.output.trans hbW.output, Nat.le_trans hbW.size hbb.size, fun b hb hn => (hbb.block b hb).trans (hbW.block b (Nat.lt_of_lt_of_le hb SZ.out) hn)⟩) ⟨fun c => (by rw [upB_self] at c; cases c), fun c => (by rw [show upB L 6 3 = L 3 from rfl, o3] at c; cases c), fun _ => (hg.2.2.1 o3).keep (hbb.mono (by omega)), fun c => (by rw [show upB L 6 8 = L 8 from rfl, h8] at c; cases c)⟩ ?_
          intro j u hj hr
          match j, hj, hr with
          | 0, _, hr => exact hr
          | 1, _, hr => exact hr
          | 2, _, hr => exact hr
          | 3, _, hr => exact hr
          | 4, _, hr => exact hr
          | 5, hj, hr => exact fun c => (by rw [upB_self] at c; cases c)
          | 6, hj, hr => rw [hi] at hj; cases hj
          | 7, _, hr => exact hr
          | 8, _, hr => trivial
          | _ + 9, _, hr => trivial
        · refine gen_plain rfl (fun _ _ => rfl) (fun L val V hc hi hu hg hd => ?_)
          refine gdoes_value (v := .pointer (some ⟨ob, 3, none⟩)) ?_ rfl hg (fun j u hj hr => hr)
          simp [execOp, Act.eval, go_sem]
        · refine gen_plain rfl (fun _ _ => rfl) (fun L val V hc hi hu hg hd => ?_)
          have h7 : val 7 = .pointer (some ⟨ob, 3, none⟩) := depsG_get hd 7 (by kernel_rfl)
          have o6 := depsG_on hd 6 (by kernel_rfl)
          have o3 := wants_done hc 10 6 3 (by kernel_rfl) o6
          have hA := depsG_get hd 6 (by kernel_rfl) hi
          obtain ⟨ya, yc, hy⟩ := hA.choose_spec.1.sliceV
          have p2 := hg.2.2.1 o3
          rw [hy] at hA
          have nb := hA.choose_spec.2
          have ep := nb.block ob (by omega) nO1
          have e0 : V.cell? ⟨ob, 3, none⟩ = some (.slice la acc.length lc) := (World.cell?_of_block (w := W) ep).trans x3
          have e1 : V.frozen? ⟨ob, 3, none⟩ = false := (show V.frozen? ⟨ob, 3, none⟩ = W.frozen? ⟨ob, 3, none⟩ by unfold World.frozen?; rw [ep]).trans LQ0.out.oc.z3
          obtain ⟨rows2, es⟩ := LQ0.out.final hA p2 nXO nAO nO1 nA1
          refine gdoes_skip (w' := V.setCell ⟨ob, 3, none⟩ (.slice ya (acc.length + 1) yc)) ?_ trivial ⟨fun c => (by rw [show upB L 8 6 = L 6 from rfl, o6] at c; cases c), fun c => (by rw [show upB L 8 3 = L 3 from rfl, o3] at c; cases c), fun _ => rs_set p2 nXO _, fun _ => ⟨ya, yc, rows2, es⟩⟩ ?_
          · simp [execOp, Act.eval, go_sem, h7, hy, e0, e1]
          · intro j u hj hr
            match j, hj, hr with
            | 0, _, hr => exact hr
            | 1, _, hr => exact hr
            | 2, _, hr => exact hr
            | 3, _, hr => exact hr
            | 4, _, hr => exact hr
            | 5, hj, hr => exact fun c => (by rw [show upB L 8 6 = L 6 from rfl, o6] at c; cases c)
            | 6, hj, hr => exact fun c => (by rw [upB_self] at c; cases c)
            | 7, _, hr => exact hr
            | 8, _, hr => trivial
            | _ + 9, _, hr => trivial
        intro L val V hL hg hR
        obtain ⟨ya, yc, rows5, LQ5⟩ := hg.2.2.2 (hL 8 (by decide))
        have L5H := hid LQ5
        have hlen5 : Hid ((acc ++ [td]).length = acc.length + 1) := by show _ = _; simp
        clear hg hR hL LQ5 x3 OL RSD OUTB OUT SZ LQ0
        go_wp2_with fail
        have hl5 := hlen5.out
        go_roundg 0
        case measure => exact HM.out
        case rel => exact ⟨r2, acc ++ [td], ya, yc, rows5, by rw [HR2.out]; simp [rM], L5H.out, EQ2.out, by omega, by show _ → _; rw [HR2.out]; intro c; cases c⟩
      · have h40i : ((acc.length : Int) == 40) = false := by rw [beq_eq_false_iff_ne]; omega
        have EQ2 := hid (left_more EQ.out htk h40)
        have HM := hid hm
        go_wp2_with fail
        go_at_call 17
        refine (is_any _ _ _ _ _ _ LQ0.out.rs).mono ?_
        rintro e w' ⟨rfl, rfl⟩
        rw [hi2]
        go_wp2_with fail
        clear x3a
        obtain ⟨W, hW⟩ : ∃ W, W = wr := ⟨_, rfl⟩
        rw [← hW] at LQ0 ⊢
        clear hW
        obtain ⟨rr, hrr⟩ : ∃ rr : Rd, rr = (t :: l, none) := ⟨_, rfl⟩
        obtain ⟨r2, hr2⟩ : ∃ r2 : Rd, r2 = (l, none) := ⟨_, rfl⟩
        rw [← hrr] at LQ0
        obtain ⟨ta, tb, tc, td⟩ := t
        have HWN : Hid (rWant en rr 2 ⟨#[]⟩ = ((ta, tb, tc, td), r2)) := by show _ = _; rw [hrr, hr2]; simp [rWant, htk]
        rw [← hr2] at EQ2
        have HR2 := hid hr2
        clear hrr hr2
        have OUT := hid LQ0.out.out
        have OUTB : Hid (∀ V, Beside bx W V → OutInv 3 1 RI (ob + 1) V (.slice la acc.length lc) acc.length rows acc) := fun V hb => LQ0.out.out.beside ri_keep hb (by omega)
        have SZ := hid LQ0.out.size
        have x3 := LQ0.out.oc.c3
        have OL := hid LQ0.out.oc.lt
        have RSD : Hid (RS bx en W.drew rr) := LQ0.out.rs.keep (below_drew1 (Below.refl _ _))
        refine wp_region_gen Tryz.mixedOrders (by kernel_rfl) (fun val => { tmps := #[_, _, _, _, _, _, _, _, _, _, _, _, _, _, _, _, _, _, _, _, _, _, _, _, _, _, _, _, _, _, _, _, _, _, _, _, _, _, _, _, _, _, _, _, _, _, _, _, _, _, _, _, val 0, val 1, val 2, val 3, val 4, val 5, val 6, val 7, _, _, _, _, _], defers := [] }) (fun i => match i with | 0 => u52 | 1 => u53 | 2 => u54 | 3 => u55 | 4 => u56 | 5 => u57 | 6 => u58 | 7 => u59 | 8 => undef | _ => undef) rfl (fun L V => (L 6 = false → Beside bx W V) ∧ (L 3 = false → RS bx en V rr) ∧ (L 3 = true → RS bx en V r2) ∧ (L 8 = true → ∃ ya yc rows2, LQ bx en w ob s V r2 (acc ++ [td]) (.slice ya (acc ++ [td]).length yc) rows2)) (fun L i y V => match i with | 0 => y = .pointer (some ⟨ob, 3, none⟩) | 1 => y = .slice la acc.length lc | 2 => y = .pointer (some ⟨bx, 0, none⟩) | 3 => y = .agg #[.int .i64 ta, .int .i64 tb, .string tc, .int .i64 td] | 4 => y = .int .i64 td | 5 => L 6 = false → ∃ nb, y = .slice (some ⟨nb, 0, none⟩) 1 1 ∧ V.heap[nb]? = some (.cells #[.int .i64 td] 3) | 6 => L 8 = false → AppI bx (ob + 1) W V acc td y | 7 => y = .pointer (some ⟨ob, 3, none⟩) | 8 => True | _ => True) ⟨fun _ => be_drew (Beside.refl bx W), fun _ => RSD.out, fun c => (by cases c), fun c => (by cases c)⟩ _ rfl ⟨?_, ?_, ?_, ?_, ?_, ?_, ?_, ?_, ?_, trivial⟩ ?_
        · refine gen_plain rfl (fun _ _ => rfl) (fun L val V hc hi hu hg hd => ?_)
          refine gdoes_value (v := .pointer (some ⟨ob, 3, none⟩)) ?_ rfl hg (fun j u hj hr => hr)
          simp [execOp, Act.eval, go_sem]
        · refine gen_plain rfl (fun _ _ => rfl) (fun L val V hc hi hu hg hd => ?_)
          have h0 : val 0 = .pointer (some ⟨ob, 3, none⟩) := depsG_get hd 0 (by kernel_rfl)
          have h6 : L 6 = false := wants_back hc 10 6 1 (by kernel_rfl) hi
          have e2 : V.cell? ⟨ob, 3, none⟩ = some (.slice la acc.length lc) := ((hg.1 h6).cell (p := ⟨ob, 3, none⟩) OL.out nO1).trans x3
          refine gdoes_value (v := .slice la acc.length lc) ?_ rfl hg (fun j u hj hr => hr)
          simp [execOp, Act.eval, go_sem, h0, e2]
        · refine gen_plain rfl (fun _ _ => rfl) (fun L val V hc hi hu hg hd => ?_)
          refine gdoes_value (v := .pointer (some ⟨bx, 0, none⟩)) ?_ rfl hg (fun j u hj hr => hr)
          simp [execOp, Act.eval, go_sem]
        · refine gen_plain rfl (fun _ _ => rfl) (fun L val V hc hi hu hg hd => ?_)
          have h2 : val 2 = .pointer (some ⟨bx, 0, none⟩) := depsG_get hd 2 (by kernel_rfl)
          have h6 : L 6 = false := wants_back hc 10 6 3 (by kernel_rfl) hi
          have h8 : L 8 = false := wants_back hc 10 8 3 (by kernel_rfl) hi
          have h5 : L 5 = false := wants_back hc 10 5 3 (by kernel_rfl) hi
          have hbW := hg.1 h6
          refine gdoes_call (f := 18) (args := #[.pointer (some ⟨bx, 0, none⟩), .int .i64 2, .string ⟨#[]⟩]) ?_ (want_any bx en rr 2 ⟨#[]⟩ V (hg.2.1 hi)) ?_
          · simp [execOp, Act.eval, go_sem, resolve, invoke, h2]
          · rintro e w' ⟨rfl, hr3, hb3⟩
            rw [HWN.out] at hr3 ⊢
            refine ⟨_, rfl, rfl, ⟨fun _ => hbW.trans hb3, fun c => (by rw [upB_self] at c; cases c), fun _ => hr3, fun c => (by rw [show upB L 3 8 = L 8 from rfl, h8] at c; cases c)⟩, ?_⟩
            intro j u hj hr
            match j, hj, hr with
            | 0, _, hr => exact hr
            | 1, _, hr => exact hr
            | 2, _, hr => exact hr
            | 3, hj, hr => rw [hi] at hj; cases hj
            | 4, _, hr => exact hr
            | 5, hj, hr => rw [h5] at hj; cases hj
            | 6, hj, hr => rw [h6] at hj; cases hj
            | 7, _, hr => exact hr
            | 8, _, hr => trivial
            | _ + 9, _, hr => trivial
        · refine gen_plain rfl (fun _ _ => rfl) (fun L val V hc hi hu hg hd => ?_)
          have h3 : val 3 = .agg #[.int .i64 ta, .int .i64 tb, .string tc, .int .i64 td] := depsG_get hd 3 (by kernel_rfl)
          refine gdoes_value (v := .int .i64 td) ?_ rfl hg (fun j u hj hr => hr)
          simp [execOp, Act.eval, go_sem, h3, F3]
        · refine gen_plain rfl (fun _ _ => rfl) (fun L val V hc hi hu hg hd => ?_)
          have h4 : val 4 = .int .i64 td := depsG_get hd 4 (by kernel_rfl)
          have o4 := depsG_on hd 4 (by kernel_rfl)
          have o3 := wants_done hc 10 4 3 (by kernel_rfl) o4
          have h6 : L 6 = false := wants_back hc 10 6 5 (by kernel_rfl) hi
          have h8 : L 8 = false := wants_back hc 10 8 5 (by kernel_rfl) hi
          have hbW := hg.1 h6
          have hbv : Below V.heap.size V (V.alloc (.cells #[.int .i64 td] 3)) := below_box V _
          refine gdoes_turn (v := .slice (some ⟨V.heap.size, 0, none⟩) 1 1) (w' := V.alloc (.cells #[.int .i64 td] 3)) ?_ (fun _ => ⟨V.heap.size, rfl, heap_alloc_new V _⟩) ⟨fun _ => hbW.trans (Beside.of_below hbv), fun c => (by rw [show upB L 5 3 = L 3 from rfl, o3] at c; cases c), fun _ => rs_new (hg.2.2.1 o3) _, fun c => (by rw [show upB L 5 8 = L 8 from rfl, h8] at c; cases c)⟩ ?_
          · simp [execOp, Act.eval, go_sem, h4]
          · intro j u hj hr
            match j, hj, hr with
            | 0, _, hr => exact hr
            | 1, _, hr => exact hr
            | 2, _, hr => exact hr
            | 3, _, hr => exact hr
            | 4, _, hr => exact hr
            | 5, hj, hr => rw [hi] at hj; cases hj
            | 6, hj, hr => rw [h6] at hj; cases hj
            | 7, _, hr => exact hr
            | 8, _, hr => trivial
            | _ + 9, _, hr => trivial
        · refine gen_plain rfl (fun _ _ => rfl) (fun L val V hc hi hu hg hd => ?_)
          have h1 : val 1 = .slice la acc.length lc := depsG_get hd 1 (by kernel_rfl)
          obtain ⟨nb, q2, q3⟩ := depsG_get hd 5 (by kernel_rfl) hi
          have o5 := depsG_on hd 5 (by kernel_rfl)
          have o3 := wants_done hc 10 5 3 (by kernel_rfl) o5
          have h8 : L 8 = false := wants_back hc 10 8 6 (by kernel_rfl) hi
          have hbW := hg.1 hi
          intro K hK
          refine wp_appendI (ob + 1) V _ _ rfl (.slice la acc.length lc) acc.length rows.flatten td (show val 1 = _ from h1) nb (show val 5 = _ from q2) q3 (OUTB.out V hbW).own (Nat.le_trans SZ.out hbW.size) (by omega) (fun g cap V' ho hgr hat => ?_)
          have hbb : Below (ob + 1) V V' := (Below.refl (ob + 1) V).grown hgr (Nat.le_trans SZ.out hbW.size) (fun b c => (OUT.out.own.lt b c).1)
          refine hK _ V' (fun _ => ⟨_, OUT.out.grow ri_keep SZ.out (by omega) hbW (row := [.int .i64 td]) (x := td) rfl rfl ho hgr hat, hbb.os.trans hbW.os, hbb.tape.trans hbW.tape, hbb.output.trans hbW.output, Nat.le_trans hbW.size hbb.size, fun b hb hn => (hbb.block b hb).trans (hbW.block b (Nat.lt_of_lt_of_le hb SZ.out) hn)⟩) ⟨fun c => (by rw [upB_self] at c; cases c), fun c => (by rw [show upB L 6 3 = L 3 from rfl, o3] at c; cases c), fun _ => (hg.2.2.1 o3).keep (hbb.mono (by omega)), fun c => (by rw [show upB L 6 8 = L 8 from rfl, h8] at c; cases c)⟩ ?_
          intro j u hj hr
          match j, hj, hr with
          | 0, _, hr => exact hr
          | 1, _, hr => exact hr
          | 2, _, hr => exact hr
          | 3, _, hr => exact hr
          | 4, _, hr => exact hr
          | 5, hj, hr => exact fun c => (by rw [upB_self] at c; cases c)
          | 6, hj, hr => rw [hi] at hj; cases hj
          | 7, _, hr => exact hr
          | 8, _, hr => trivial
          | _ + 9, _, hr => trivial
        · refine gen_plain rfl (fun _ _ => rfl) (fun L val V hc hi hu hg hd => ?_)
          refine gdoes_value (v := .pointer (some ⟨ob, 3, none⟩)) ?_ rfl hg (fun j u hj hr => hr)
          simp [execOp, Act.eval, go_sem]
        · refine gen_plain rfl (fun _ _ => rfl) (fun L val V hc hi hu hg hd => ?_)
          have h7 : val 7 = .pointer (some ⟨ob, 3, none⟩) := depsG_get hd 7 (by kernel_rfl)
          have o6 := depsG_on hd 6 (by kernel_rfl)
          have o3 := wants_done hc 10 6 3 (by kernel_rfl) o6
          have hA := depsG_get hd 6 (by kernel_rfl) hi
          obtain ⟨ya, yc, hy⟩ := hA.choose_spec.1.sliceV
          have p2 := hg.2.2.1 o3
          rw [hy] at hA
          have nb := hA.choose_spec.2
          have ep := nb.block ob (by omega) nO1
          have e0 : V.cell? ⟨ob, 3, none⟩ = some (.slice la acc.length lc) := (World.cell?_of_block (w := W) ep).trans x3
          have e1 : V.frozen? ⟨ob, 3, none⟩ = false := (show V.frozen? ⟨ob, 3, none⟩ = W.frozen? ⟨ob, 3, none⟩ by unfold World.frozen?; rw [ep]).trans LQ0.out.oc.z3
          obtain ⟨rows2, es⟩ := LQ0.out.final hA p2 nXO nAO nO1 nA1
          refine gdoes_skip (w' := V.setCell ⟨ob, 3, none⟩ (.slice ya (acc.length + 1) yc)) ?_ trivial ⟨fun c => (by rw [show upB L 8 6 = L 6 from rfl, o6] at c; cases c), fun c => (by rw [show upB L 8 3 = L 3 from rfl, o3] at c; cases c), fun _ => rs_set p2 nXO _, fun _ => ⟨ya, yc, rows2, es⟩⟩ ?_
          · simp [execOp, Act.eval, go_sem, h7, hy, e0, e1]
          · intro j u hj hr
            match j, hj, hr with
            | 0, _, hr => exact hr
            | 1, _, hr => exact hr
            | 2, _, hr => exact hr
            | 3, _, hr => exact hr
            | 4, _, hr => exact hr
            | 5, hj, hr => exact fun c => (by rw [show upB L 8 6 = L 6 from rfl, o6] at c; cases c)
            | 6, hj, hr => exact fun c => (by rw [upB_self] at c; cases c)
            | 7, _, hr => exact hr
            | 8, _, hr => trivial
            | _ + 9, _, hr => trivial
        intro L val V hL hg hR
        obtain ⟨ya, yc, rows5, LQ5⟩ := hg.2.2.2 (hL 8 (by decide))
        have L5H := hid LQ5
        have hlen5 : Hid ((acc ++ [td]).length = acc.length + 1) := by show _ = _; simp
        clear hg hR hL LQ5 x3 OL RSD OUTB OUT SZ LQ0
        go_wp2_with fail
        have hl5 := hlen5.out
        have hm2 := HM.out
        have hmm : rM r2 = l.length + 1 := by rw [HR2.out]; rfl
        have hmm0 : rM (((ta, tb, tc, td) :: l, none) : Rd) = l.length + 1 + 1 := by simp [rM]
        go_roundg (rM r2)
        case measure => omega
        case rel => exact ⟨r2, acc ++ [td], ya, yc, rows5, Nat.le_refl _, L5H.out, EQ2.out, by omega, by show _ → _; intro _; omega⟩
end Go.Proofs.YtegeiojcdjnmjaaGreatDoor
