/-
  Writers, and lists of writes held against one another.
-/
import Derived.Test.YtppemdockjbkdaaTb8
namespace Go.Proofs.Ytppemdockjbkdaa
set_option linter.unusedVariables false
set_option linter.unusedSimpArgs false
open Go.RowKit Go.Lib Go.Maps Go.Sort
open Tx (MTxn info_parts flatten_len flatten_get RowsIn.cells RowCells TxnRow TxnsIn TxnsOwn setCell_self cloneInts_any OpsOwn smallL cutTxn cutOp)

/-- A slice of writes that can be read. -/
def ArgW (w : World) (ao : Option Addr) (es : List (Nat × Nat)) : Prop :=
  ∀ j, j < es.length → ∃ b, ao = some ⟨b, 0, none⟩ ∧ w.cell? ⟨b, j * 2, none⟩ = some (.int .i64 ((es.getD j default).1 : Int)) ∧ w.cell? ⟨b, j * 2 + 1, none⟩ = some (.int .i64 ((es.getD j default).2 : Int))
theorem ArgW.later {w w' : World} {ao : Option Addr} {es : List (Nat × Nat)} (h : ArgW w ao es) (hb : Below w.heap.size w w') : ArgW w' ao es := fun j hj => by
  obtain ⟨b, e, h0, h1⟩ := h j hj
  exact ⟨b, e, (hb.cell (p := ⟨b, j * 2, none⟩) (World.block_lt_of_cell? _ _ h0)).trans h0, (hb.cell (p := ⟨b, j * 2 + 1, none⟩) (World.block_lt_of_cell? _ _ h1)).trans h1⟩
theorem wrC_at : ∀ (l : List (Nat × Nat)) (j : Nat), j < l.length → (wrC l)[j * 2]? = some (.int .i64 ((l.getD j default).1 : Int)) ∧ (wrC l)[j * 2 + 1]? = some (.int .i64 ((l.getD j default).2 : Int))
  | [], j, h => by simp at h
  | x :: l, 0, _ => by
    have e : wrC (x :: l) = [.int .i64 (x.1 : Int), .int .i64 (x.2 : Int)] ++ wrC l := by simp [wrC]
    rw [e]
    exact ⟨rfl, rfl⟩
  | x :: l, j + 1, h => by
    have e : wrC (x :: l) = [.int .i64 (x.1 : Int), .int .i64 (x.2 : Int)] ++ wrC l := by simp [wrC]
    obtain ⟨h1, h2⟩ := wrC_at l j (by simpa using h)
    rw [e, List.getElem?_append_right (by simp; omega), List.getElem?_append_right (by simp; omega)]
    have a1 : (j + 1) * 2 - [Value.int .i64 (x.1 : Int), Value.int .i64 (x.2 : Int)].length = j * 2 := by simp; omega
    have a2 : (j + 1) * 2 + 1 - [Value.int .i64 (x.1 : Int), Value.int .i64 (x.2 : Int)].length = j * 2 + 1 := by simp; omega
    rw [a1, a2, h1, h2]
    simp [List.getD]
theorem wrC_len (l : List (Nat × Nat)) : (wrC l).length = l.length * 2 := by
  induction l with
  | nil => rfl
  | cons x l ih =>
    have e : wrC (x :: l) = [.int .i64 (x.1 : Int), .int .i64 (x.2 : Int)] ++ wrC l := by simp [wrC]
    rw [e, List.length_append, ih]
    simp
    omega
theorem wrC_one (l : List (Nat × Nat)) : ∀ u ∈ wrC l, u.oneCell' = true := by
  intro u hu
  obtain ⟨x, _, hx⟩ := List.mem_flatMap.1 hu
  simp only [List.mem_cons, List.not_mem_nil, or_false] at hx
  rcases hx with rfl | rfl <;> rfl
theorem own_arg {B : Nat} {w : World} {v : Value} {l : List (Nat × Nat)} (h : w.ownsRow B 44 2 v l.length (wrC l)) : ∃ ao c, v = .slice ao l.length c ∧ ArgW w ao l := by
  have h' := h
  rcases h.2 with ⟨hv, hn⟩ | ⟨g, cap, cur, hv, hB, hh, _⟩
  · exact ⟨none, 0, by rw [hv, hn], fun j hj => by omega⟩
  · subst hv
    refine ⟨_, cap, rfl, fun j hj => ⟨g, rfl, ?_, ?_⟩⟩
    · have := h'.cells (g := g) rfl (j * 2) _ (wrC_at l j hj).1
      rw [Addr.add_lit] at this
      simpa using this
    · have := h'.cells (g := g) rfl (j * 2 + 1) _ (wrC_at l j hj).2
      rw [Addr.add_lit] at this
      simpa using this
theorem below_drewN {B : Nat} {w w' : World} (h : Below B w w') (q : Nat) : Below B w (w'.drewN q) := ⟨h.os, h.tape, h.output, h.size, h.block⟩
theorem drawn_cell (w : World) (q : Nat) (a : Addr) : (w.drewN q).cell? a = w.cell? a := World.cell?_of_block (w := w) (by rfl)
set_option maxHeartbeats 4000000 in
theorem equal_writes (a1 a2 : Option Addr) (c1 c2 : Nat) (l : List (Nat × Nat)) (w : World) (h1 : ArgW w a1 l) (h2 : ArgW w a2 l) (hl : l.length ≤ 1000000) :
    Calls Try.prog 20 #[.slice a1 l.length c1, .slice a2 l.length c2] w fun e w' => e = .returned (.bool true) ∧ ∃ q, w' = w.drewN q := by
  have H1 := hid h1
  have H2 := hid h2
  clear h1 h2
  have hlen : (l.length : Int) ≤ 1000000 := by omega
  have hq : ((l.length : Int) == (l.length : Int)) = true := by simp
  go_enter Try.func20, Try.ntmps20
  go_wp2_with fail
  go_loopg [5, 13] l.length (fun g _ i wr => ∃ k : Nat, k ≤ l.length ∧ l.length - k ≤ g ∧ i = .int .i64 k ∧ Aside (∃ q, wr = w.drewN q))
  case atStart => exact ⟨0, Nat.zero_le _, by omega, rfl, 0, rfl⟩
  case round =>
    obtain ⟨k, hk, hg, rfl, QX⟩ := hrel
    obtain ⟨q, rfl⟩ := QX.out
    by_cases hlt : k < l.length
    · have hlti : (k : Int) < l.length := by omega
      obtain ⟨b1, rfl, d1, d2⟩ := H1.out k hlt
      obtain ⟨b2, rfl, f1, f2⟩ := H2.out k hlt
      have d1' := (drawn_cell w q _).trans d1
      have d2' := (drawn_cell w q _).trans d2
      have f1' := (drawn_cell w q _).trans f1
      have f2' := (drawn_cell w q _).trans f2
      generalize (((l.getD k default).1 : Nat) : Int) = x at *
      generalize (((l.getD k default).2 : Nat) : Int) = y at *
      have hxx : (x == x) = true := by simp
      have hyy : (y == y) = true := by simp
      go_wp2_with fail
      go_quiet (fail)
      go_wp2_with fail
      go_roundg (l.length - (k + 1))
      · exact ⟨k + 1, by omega, by omega, by go_num, _, rfl⟩
      · omega
    · have hlti : ¬ (k : Int) < l.length := by omega
      go_wp2_with fail
      go_ret
      exact ⟨rfl, _, rfl⟩
set_option maxHeartbeats 4000000 in
theorem index_writes (a1 : Option Addr) (c1 : Nat) (l : List (Nat × Nat)) (i j : Nat) (I J : Int) (hI : I = i) (hJ : J = j) (w : World) (h1 : ArgW w a1 l) (hl : l.length ≤ 1000000) :
    Calls Try.prog 41 #[.slice a1 l.length c1, .agg #[.int .i64 I, .int .i64 J]] w fun e w' => ∃ n : Int, e = .returned (.int .i64 n) ∧ (0 ≤ n ↔ (i, j) ∈ l) ∧ Below w.heap.size w w' := by
  have H1 := hid h1
  have HII := hid hI
  have HJJ := hid hJ
  clear h1 hI hJ
  have hlen : (l.length : Int) ≤ 1000000 := by omega
  obtain ⟨W, hW⟩ : ∃ W, w.alloc (.cells #[.int .i64 I, .int .i64 J] 44) = W := ⟨_, rfl⟩
  have BW : Hid (Below w.heap.size w W) := by rw [← hW]; exact below_box w _
  have A1 : Hid (ArgW W a1 l) := H1.out.later BW.out
  obtain ⟨xb, hxb⟩ : ∃ xb, w.heap.size = xb := ⟨_, rfl⟩
  have p0 : W.cell? ⟨xb, 0, none⟩ = some (.int .i64 I) := by rw [← hW, ← hxb]; simp
  have p1 : W.cell? ⟨xb, 1, none⟩ = some (.int .i64 J) := by rw [← hW, ← hxb]; simp
  have HW := hid hW
  have HXB := hid hxb
  clear hW hxb H1
  go_enter Try.func41, Try.ntmps41
  go_upto_region 1 with fail
  rw [show w.alloc (.cells #[.int .i64 I, .int .i64 J] 44) = W from HW.out, show w.heap.size = xb from HXB.out]
  go_wp2_with fail
  go_loopg [5, 8] l.length (fun g _ i' wr => ∃ k : Nat, k ≤ l.length ∧ l.length - k ≤ g ∧ i' = .int .i64 k ∧ Aside (∃ q, wr = W.drewN q) ∧ Aside (∀ m, m < k → l.getD m default ≠ (i, j)))
  case atStart => exact ⟨0, Nat.zero_le _, by omega, rfl, ⟨0, rfl⟩, fun m hm => absurd hm (Nat.not_lt_zero _)⟩
  case round =>
    obtain ⟨k, hk, hg, rfl, QX, NX⟩ := hrel
    obtain ⟨q, rfl⟩ := QX.out
    have BQ : ∀ q, Hid (Below w.heap.size w (W.drewN q)) := fun q => below_drewN BW.out q
    by_cases hlt : k < l.length
    · have hlti : (k : Int) < l.length := by omega
      obtain ⟨b1, rfl, d1, d2⟩ := A1.out k hlt
      have HK : Hid (l.getD k default ∈ l) := getD_mem l k hlt
      obtain ⟨X, hX⟩ : ∃ X, l.getD k default = X := ⟨_, rfl⟩
      rw [hX] at d1 d2 HK
      have N2 : Hid (X ≠ (i, j) → ∀ m, m < k + 1 → l.getD m default ≠ (i, j)) := fun hne m hm => by
        by_cases e : m = k
        · rw [e, hX]
          exact hne
        · exact NX.out m (by omega)
      clear hX
      obtain ⟨x, y⟩ := X
      have EX : Hid (∀ xi yi : Int, (x : Int) = xi → (y : Int) = yi → (I = xi ∧ J = yi → (i, j) = (x, y)) ∧ (¬ (I = xi ∧ J = yi) → (x, y) ≠ (i, j))) := fun xi yi e1 e2 => ⟨fun c => by
        have a := HII.out
        have b := HJJ.out
        have h1 : i = x := by omega
        have h2 : j = y := by omega
        rw [h1, h2], fun c e => c (by
        have h1 : x = i := (Prod.mk.inj e).1
        have h2 : y = j := (Prod.mk.inj e).2
        have a := HII.out
        have b := HJJ.out
        exact ⟨by omega, by omega⟩)⟩
      obtain ⟨xi, hxi⟩ : ∃ xi : Int, (x : Int) = xi := ⟨_, rfl⟩
      obtain ⟨yi, hyi⟩ : ∃ yi : Int, (y : Int) = yi := ⟨_, rfl⟩
      have hE := EX.out xi yi hxi hyi
      have d1'' : W.cell? ⟨b1, k * 2, none⟩ = some (.int .i64 xi) := by rw [← hxi]; exact d1
      have d2'' : W.cell? ⟨b1, k * 2 + 1, none⟩ = some (.int .i64 yi) := by rw [← hyi]; exact d2
      have HE := hid hE
      clear hxi hyi hE d1 d2 EX
      by_cases hx : I = xi
      · have hxx : (I == xi) = true := by simpa using hx
        by_cases hy : J = yi
        · have hyy : (J == yi) = true := by simpa using hy
          have HM : Hid ((i, j) ∈ l) := by rw [HE.out.1 ⟨hx, hy⟩]; exact HK.out
          clear N2 hx hy
          go_wp2_with fail
          go_quiet (fail)
          go_wp2_with fail
          go_ret
          exact ⟨k, rfl, ⟨fun _ => HM.out, fun _ => by omega⟩, below_drewN (BQ q).out _⟩
        · have hyy : (J == yi) = false := by simpa using hy
          have N3 := hid (N2.out (HE.out.2 (fun c => hy c.2)))
          clear N2 hx hy
          go_wp2_with fail
          go_quiet (fail)
          go_wp2_with fail
          go_roundg (l.length - (k + 1))
          · exact ⟨k + 1, by omega, by omega, by go_num, ⟨_, rfl⟩, N3.out⟩
          · omega
      · have hxx : (I == xi) = false := by simpa using hx
        have N3 := hid (N2.out (HE.out.2 (fun c => hx c.1)))
        clear N2 hx
        go_wp2_with fail
        go_quiet (fail)
        go_wp2_with fail
        go_roundg (l.length - (k + 1))
        · exact ⟨k + 1, by omega, by omega, by go_num, ⟨_, rfl⟩, N3.out⟩
        · omega
    · have hlti : ¬ (k : Int) < l.length := by omega
      go_wp2_with fail
      go_ret
      exact ⟨-1, rfl, ⟨fun c => absurd c (by decide), fun c => by
        obtain ⟨m, hm, e⟩ := List.mem_iff_getElem.1 c
        exact absurd ((getD_at l m hm).trans e) (NX.out m (by omega))⟩, (BQ _).out⟩
theorem contains_writes (a1 : Option Addr) (c1 : Nat) (l : List (Nat × Nat)) (i j : Nat) (w : World) (h1 : ArgW w a1 l) (hl : l.length ≤ 1000000) (r : Bool) (hr : r = true ↔ (i, j) ∈ l) :
    Calls Try.prog 25 #[.slice a1 l.length c1, .agg #[.int .i64 (i : Int), .int .i64 (j : Int)]] w fun e w' => e = .returned (.bool r) ∧ Below w.heap.size w w' := by
  have HI := hid (fun W (hb : Below w.heap.size w W) => index_writes a1 c1 l i j i j rfl rfl W (h1.later hb) hl)
  have HR := hid hr
  have BX : Hid (Below w.heap.size w (w.alloc (.cells #[.int .i64 (i : Int), .int .i64 (j : Int)] 44))) := below_box w _
  clear h1 hr
  cases r with
  | false =>
    go_enter Try.func25, Try.ntmps25
    go_wp2_with (go_at_call 41; refine (HI.out _ BX.out).mono ?_; rintro e w2 ⟨n, rfl, hn, b2⟩; have hlt : n < 0 := (by have hc : ¬ 0 ≤ n := fun c => absurd (HR.out.2 (hn.1 c)) (by decide); omega); have hd : decide (0 ≤ n) = false := (by simp; omega); have B2 : Hid (Below w.heap.size w w2) := BX.out.trans (b2.mono BX.out.size); clear hn b2)
    go_ret
    exact ⟨rfl, B2.out⟩
  | true =>
    go_enter Try.func25, Try.ntmps25
    go_wp2_with (go_at_call 41; refine (HI.out _ BX.out).mono ?_; rintro e w2 ⟨n, rfl, hn, b2⟩; have hlt : 0 ≤ n := hn.2 (HR.out.1 rfl); have hd : decide (0 ≤ n) = true := (by simpa using hlt); have B2 : Hid (Below w.heap.size w w2) := BX.out.trans (b2.mono BX.out.size); clear hn b2)
    go_ret
    exact ⟨rfl, B2.out⟩
/-- Who wrote a value, in memory of its own. -/
theorem twriters_is (B : Nat) (w : World) (tb : Nat) (l : List MTxn) (h : Made B w tb l) (s : ByteArray) (x : Int) (hs : s.size ≤ maxLen) (hx : (Lit.int .i64 x).wf = true) (hN : (notes l l.length).length ≤ 100000) :
    Calls Try.prog 21 #[.pointer (some ⟨tb, 0, none⟩), .string s, .int .i64 x] w fun e w' => ∃ v', e = .returned v' ∧ w'.ownsRow w.heap.size 44 2 v' (writersN (notes l l.length) s x).length (wrC (writersN (notes l l.length) s x)) ∧ Below w.heap.size w w' := by
  obtain ⟨kb, wb, lb, tv, kv, F, D, m, u, h1, _⟩ := h
  obtain ⟨_, _, _, c3, _, _⟩ := h1.c
  obtain ⟨S, hS⟩ := h1.ws
  have LW := hS.look s x hs hx
  unfold verV at LW
  have hwl := writers_len (notes l l.length) s x
  have ho := hS.own s x
  clear h1 hS
  rcases ho.2 with ⟨hv, hn⟩ | ⟨g, cap, cur, hv, hB, hh, hr⟩
  · rw [hv] at LW
    have CN := hid (cloneW_nil 0 0 w)
    have hnil : writersN (notes l l.length) s x = [] := List.length_eq_zero_iff.1 hn
    have FIN : Hid (w.ownsRow w.heap.size 44 2 (.slice none 0 0) (writersN (notes l l.length) s x).length (wrC (writersN (notes l l.length) s x))) := by
      show World.ownsRow _ _ _ _ _ _ _
      rw [hnil]
      exact World.ownsRow_nil _ _ _ _
    clear ho hv hn hnil
    go_enter Try.func21, Try.ntmps21
    go_wp2_with (go_at_call 39; refine CN.out.mono ?_; rintro e w2 ⟨rfl, rfl⟩)
    go_ret
    exact ⟨_, rfl, FIN.out, Below.refl _ _⟩
  · rw [hv] at LW ho
    have CS := hid (cloneW_some ⟨g, 0, none⟩ (writersN (notes l l.length) s x).length cap (wrC (writersN (notes l l.length) s x)) w (wrC_len _) (by omega) (wrC_one _) (fun j u hj => ho.cells (g := g) rfl j u hj))
    clear ho hv hh hr
    go_enter Try.func21, Try.ntmps21
    go_wp2_with (go_at_call 39; refine CS.out.mono ?_; rintro e w2 ⟨v2, rfl, h2, b2⟩; have H2 := hid h2; have B2 := hid b2; clear h2 b2)
    go_ret
    exact ⟨_, rfl, H2.out, B2.out⟩
/-- What is noted of a place is the operation there. -/
theorem notes_at (l : List MTxn) : ∀ n x, x ∈ notes l n → x.2.2 = (l.getD x.1 default).ops.getD x.2.1 default
  | 0, x, h => by simp [notes] at h
  | n + 1, x, h => by
    rw [notes] at h
    rcases List.mem_append.1 h with h | h
    · exact notes_at l n x h
    · obtain ⟨j, _, rfl⟩ := List.mem_map.1 h
      rfl
/-- A write is among those of its value, and nothing else is. -/
theorem writers_mem (l : List MTxn) (k j : Nat) (hk : k < l.length) (hj : j < (l.getD k default).ops.length) : isW ((l.getD k default).ops.getD j default).kind = true ↔ (k, j) ∈ writersN (notes l l.length) ((l.getD k default).ops.getD j default).key ((l.getD k default).ops.getD j default).value := by
  constructor
  · intro h
    exact List.mem_map.2 ⟨_, List.mem_filter.2 ⟨notes_mem l k j hj l.length hk, by simp only [hitW, Bool.and_eq_true, decide_eq_true_eq]; exact ⟨⟨h, trivial⟩, trivial⟩⟩, rfl⟩
  · intro h
    obtain ⟨x, hx, e⟩ := List.mem_map.1 h
    obtain ⟨h1, h2⟩ := List.mem_filter.1 hx
    have e1 : x.1 = k := congrArg Prod.fst e
    have e2 : x.2.1 = j := congrArg Prod.snd e
    have e3 := notes_at l l.length x h1
    rw [e1, e2] at e3
    unfold hitW at h2
    simp only [Bool.and_eq_true] at h2
    rw [← e3]
    exact h2.1.1
end Go.Proofs.Ytppemdockjbkdaa
