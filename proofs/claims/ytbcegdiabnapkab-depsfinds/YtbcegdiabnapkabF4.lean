/-
  The law DepsFinds.
-/
import Derived.Test.YtbcegdiabnapkabF3
import Derived.Laws.AppendOwnNone
namespace Go.Proofs.Ytbcegdiabnapkab
set_option linter.unusedVariables false
set_option linter.unusedSimpArgs false
open Go.RowKit Go.Lib

def consW (x : MW) (f : Nat → MW) : Nat → MW := fun j => if j = 0 then x else f (j - 1)
theorem rowsW_cons (x : MW) (f : Nat → MW) (m : Nat) : (rowsW (consW x f) (m + 1)).flatten = encW x ++ (rowsW f m).flatten := by
  simp [rowsW, List.range_succ_eq_map, consW, Function.comp_def]
theorem owns_one (w : World) (x0 x1 x2 : Int) (x3 : ByteArray) (x4 x5 : Int) (x6 x7 : Bool) : (w.alloc (.cells #[.int .i64 x0, .int .i64 x1, .int .i64 x2, .string x3, .int .i64 x4, .int .i64 x5, .bool x6, .bool x7] 25)).ownsRow w.heap.size 25 8 (.slice (some ⟨w.heap.size, 0, none⟩) 1 1) 1 (encW (x0, x1, x2, x3, x4, x5, x6, x7)) :=
  ⟨rfl, .inr ⟨w.heap.size, 1, _, rfl, Nat.le_refl _, heap_alloc_new w _, Nat.le_refl _, by decide, rfl, rfl⟩⟩
theorem toArr (x0 x1 x2 : Int) (x3 : ByteArray) (x4 x5 : Int) (x6 x7 : Bool) : (encW (x0, x1, x2, x3, x4, x5, x6, x7)).toArray = #[.int .i64 x0, .int .i64 x1, .int .i64 x2, .string x3, .int .i64 x4, .int .i64 x5, .bool x6, .bool x7] := rfl

/-- An append of dependencies, or of none, to a row of one's own. -/
theorem wpList_append_why {ops : Array Oper} {rest : List Oper} {o : Oper} {a : Act} {Q : Exit → Act → World → Prop} (w : World) (hgd : o.guard = none) (s x : Operand)
    (ho : o.op = .call { callee := .builtin .append, args := #[s, x], argTypes := #[22, 22] }) (base : Nat) (v : Value) (n : Nat) (xs : List Value) (hs : a.eval s = v) (hown : w.ownsRow base 25 8 v n xs)
    (ao : Option Addr) (m c : Nat) (f : Nat → MW) (hx : a.eval x = .slice ao m c) (hl : Lw w ao m f) (hnil : ao = none → m = 0 ∧ c = 0) (hm : n + m ≤ 1000) (hbase : base ≤ w.heap.size)
    (h : ∀ v' w', w'.ownsRow base 25 8 v' (n + m) (xs ++ (rowsW f m).flatten) → w.grownBy w' v.ownBlock → wpList Try.prog ops Q rest (a.put o.dst v') w') : wpList Try.prog ops Q (o :: rest) a w := by
  obtain ⟨i0, hi, hz0, hz1, hz2⟩ := info_parts Try.infoW
  cases ao with
  | none =>
    obtain ⟨rfl, rfl⟩ := hnil rfl
    exact wpList_append_own_none hgd s x 22 ho base 25 i0 8 Try.underlying22 hi v n xs hs hown hx (h v w (by simpa [rowsW] using hown) (World.grownBy.refl _ _))
  | some ad =>
    exact wpList_append_own w hgd s x 22 ho base 25 i0 _ 8 64 Try.underlying22 hi hz0 hz1 hz2 rfl (by decide) v n xs hs hown ad m c (rowsW f m).flatten hx (by rw [flatten_len 8 _ (rowsW_size f m), rowsW_len]) (fun j u hj => hl.news j u hj) (rowsW_one f m) (by unfold maxLen; omega) (by omega) hbase (fun v' w' h1 h2 _ => h v' w' h1 h2)
theorem below_drewN {B : Nat} {w w1 : World} (h : Below B w w1) (q : Nat) : Below B w (w1.drewN q) := ⟨h.os, h.tape, h.output, h.size, h.block⟩

set_option maxHeartbeats 4000000 in
set_option maxRecDepth 100000 in
/-- Whatever it is handed. -/
theorem finds_walk (ao : Option Addr) (cp n : Nat) (f : Nat → MW) (a b c : Int) (w : World) (hl : Lw w ao n f) (hnc : n ≤ cp) (hnil : ao = none → n = 0 ∧ cp = 0) :
    Calls Try.prog 3 #[.slice ao n cp, .int .i64 a, .int .i64 b, .int .i64 c] w fun e w' => e = .returned (.bool true) ∧ Below w.heap.size w w' := by
  obtain ⟨i0, hi, hz0, hz1, hz2⟩ := info_parts Try.infoW
  obtain ⟨m, hm⟩ : ∃ m, m = min n 60 := ⟨_, rfl⟩
  have hmi : min (n : Int) 60 = (m : Int) := by omega
  have hmc : (m : Int) ≤ (cp : Int) := by omega
  have hm60 : m ≤ 60 := by omega
  have hmn : m ≤ n := by omega
  have H := hid (hl.take hmn)
  have HN : Hid (ao = none → m = 0 ∧ cp = 0) := fun h => by have := hnil h; omega
  clear hl hnil hm
  go_enter Try.func3, Try.ntmps3
  go_wp2_with fail
  go_at_call 4
  refine (clone_any ao cp m f w (by omega) H.out).mono ?_
  rintro e w1 ⟨gao, gc, rfl, hgc, hG, hb1⟩
  have B1 := hid hb1
  have G1 := hid hG
  have L1 := hid (H.out.later hb1)
  clear hb1 hG H hmi
  have KEY : Hid (∀ v' w2, w2.ownsRow w1.heap.size 25 8 v' (m + 1) (rowsW (consW (a, b, c, ⟨#[]⟩, 0, 0, false, false) f) (m + 1)).flatten → (w1.alloc (.cells #[.int .i64 a, .int .i64 b, .int .i64 c, .string ⟨#[]⟩, .int .i64 0, .int .i64 0, .bool false, .bool false] 25)).grownBy w2 (some w1.heap.size) → ∃ ao2 c2, v' = .slice ao2 (m + 1) c2 ∧ Lw w2 ao2 (m + 1) (consW (a, b, c, ⟨#[]⟩, 0, 0, false, false) f) ∧ Below w1.heap.size w1 w2) := fun v' w2 h1 h2 => by
    obtain ⟨ao2, c2, h3, _, h4⟩ := owns_lw (m := 0) h1
    exact ⟨ao2, c2, h3, h4, ((Below.refl _ w1).alloc (Nat.le_refl _) _).grown h2 (by simp) (fun k hk => by cases hk; exact Nat.le_refl _)⟩
  have TAIL : Hid (∀ gx, gx = consW (a, b, c, ⟨#[]⟩, 0, 0, false, false) f → True) := fun _ _ => trivial
  obtain ⟨gx, hgx⟩ : ∃ gx, gx = consW (a, b, c, ⟨#[]⟩, 0, 0, false, false) f := ⟨_, rfl⟩
  rw [← hgx] at KEY
  have RC : Hid ((rowsW gx (m + 1)).flatten = encW (a, b, c, ⟨#[]⟩, 0, 0, false, false) ++ (rowsW f m).flatten) := by
    show _ = _
    rw [hgx]
    exact rowsW_cons _ _ _
  clear TAIL hgx
  go_wp2_with (at_builtin; refine wpList_append_why _ rfl _ _ rfl w1.heap.size _ 1 (encW (a, b, c, ⟨#[]⟩, 0, 0, false, false)) rfl (owns_one _ _ _ _ _ _ _ _ _) ao m cp f rfl ?qc2 HN.out (by omega) (by simp) ?_)
  case qc2 => exact L1.out.later ((Below.refl _ _).alloc (Nat.le_refl _) _)
  intro v' w2 hown hgrow
  obtain ⟨ao2, c2, rfl, hL2, hB2⟩ := KEY.out v' w2 (by rw [RC.out, Nat.add_comm]; exact hown) hgrow
  have L2 := hid hL2
  have B2 := hid hB2
  clear hL2 hB2 hown hgrow KEY RC HN
  go_wp2_with fail
  go_loopg [11, 31] (m + 1) (fun g _ i wr => ∃ k : Nat, k ≤ m + 1 ∧ m + 1 - k ≤ g ∧ i = .int .i64 k ∧ Aside (Below w2.heap.size w2 wr))
  case atStart => exact ⟨0, Nat.zero_le _, by omega, rfl, Below.refl _ _⟩
  case round =>
    obtain ⟨k, hk, hgk, rfl, BW⟩ := hrel
    by_cases hlt : k < m + 1
    · have hlti : (k : Int) < (m : Int) + 1 := by omega
      obtain ⟨bb, oo, rfl, hbl, d0, d1, d2, d3, d4, d5, d6, d7⟩ := (L2.out.later BW.out).eight k hlt
      generalize gx k = X at *
      obtain ⟨x0, x1, x2, x3, x4, x5, x6, x7⟩ := X
      simp only [MW.src, MW.dst, MW.lab, MW.key, MW.va, MW.vb, MW.nl, MW.cond] at d0 d1 d2 d3 d4 d5 d6 d7
      have XB := hid (Bw.made wr x0 x1 x2 x3 x4 x5 x6 x7 25)
      have BW1 := hid (BW.out.alloc BW.out.size (.cells #[.int .i64 x0, .int .i64 x1, .int .i64 x2, .string x3, .int .i64 x4, .int .i64 x5, .bool x6, .bool x7] 25))
      go_wp2_with fail
      clear d0 d1 d2 d3 d4 d5 d6 d7 BW
      generalize wr.alloc (.cells #[.int .i64 x0, .int .i64 x1, .int .i64 x2, .string x3, .int .i64 x4, .int .i64 x5, .bool x6, .bool x7] 25) = wb at *
      generalize wr.heap.size = pb at *
      have GB : Hid (Below w1.heap.size w1 wb) := B2.out.trans (BW1.out.mono B2.out.size)
      go_at_call 5
      refine (find_is gao gc m f x0 x1 x2 wb (G1.out.later GB.out) (by omega)).mono ?_
      rintro e w5 ⟨x, ok, rfl, FI, bl⟩
      have F1 := hid FI
      obtain ⟨y0, y1, y2, y3, y4, y5, y6, y7⟩ := x
      rw [toArr]
      have XB5 := hid (XB.out.later bl)
      have BW5 := hid (BW1.out.trans (bl.mono BW1.out.size))
      clear FI bl XB BW1 GB
      obtain ⟨q0, q1, q2, q3, q4, q5, q6, q7⟩ := XB5.out.eight
      simp only [MW.src, MW.dst, MW.lab, MW.key, MW.va, MW.vb, MW.nl, MW.cond] at q0 q1 q2 q3 q4 q5 q6 q7
      have lp : pb < w5.heap.size := XB5.out.1
      have YA := hid (Bw.made w5 y0 y1 y2 y3 y4 y5 y6 y7 25)
      have BW6 := hid (BW5.out.alloc BW5.out.size (.cells #[.int .i64 y0, .int .i64 y1, .int .i64 y2, .string y3, .int .i64 y4, .int .i64 y5, .bool y6, .bool y7] 25))
      go_wp2_with fail
      clear q0 q1 q2 q3 q4 q5 q6 q7 lp XB5 BW5
      generalize w5.alloc (.cells #[.int .i64 y0, .int .i64 y1, .int .i64 y2, .string y3, .int .i64 y4, .int .i64 y5, .bool y6, .bool y7] 25) = wa at *
      generalize w5.heap.size = pa at *
      have GB : Hid (Below w1.heap.size w1 wa) := B2.out.trans (BW6.out.mono B2.out.size)
      go_at_call 6
      refine (rfind_is ao cp m f x0 x1 x2 wa (L1.out.later GB.out) (by omega)).mono ?_
      rintro e w7 ⟨z, ok2, rfl, FI2, bl⟩
      obtain ⟨rfl, rfl⟩ := F1.out.one FI2
      rw [toArr]
      have YA7 := hid (YA.out.later bl)
      have BW7 := hid (BW6.out.trans (bl.mono BW6.out.size))
      clear FI2 bl YA BW6 GB F1
      obtain ⟨q0, q1, q2, q3, q4, q5, q6, q7⟩ := YA7.out.eight
      simp only [MW.src, MW.dst, MW.lab, MW.key, MW.va, MW.vb, MW.nl, MW.cond] at q0 q1 q2 q3 q4 q5 q6 q7
      have lp : pa < w7.heap.size := YA7.out.1
      have hb0 : (y0 == y0) = true := by simp
      have hb1 : (y1 == y1) = true := by simp
      have hb2 : (y2 == y2) = true := by simp
      have hb3 : (y3.toList == y3.toList) = true := by simp
      have hb4 : (y4 == y4) = true := by simp
      have hb5 : (y5 == y5) = true := by simp
      have hb6 : (y6 == y6) = true := by simp
      have hb7 : (y7 == y7) = true := by simp
      have hbk : (ok == ok) = true := by simp
      have BW8 := hid (BW7.out.alloc BW7.out.size (.cells #[.int .i64 y0, .int .i64 y1, .int .i64 y2, .string y3, .int .i64 y4, .int .i64 y5, .bool y6, .bool y7] 25))
      go_wp2_with fail
      go_roundg (m + 1 - (k + 1))
      case measure => omega
      case rel => exact ⟨k + 1, by omega, by omega, by go_num, BW8.out⟩
    · have hlti : ¬ (k : Int) < (m : Int) + 1 := by omega
      have GB : Hid (Below w1.heap.size w1 wr) := B2.out.trans (BW.out.mono B2.out.size)
      have BE := hid (B1.out.trans (GB.out.mono B1.out.size))
      go_wp2_with fail
      go_at_call 7
      refine (equal_is gao ao gc cp m f wr (G1.out.later GB.out) (L1.out.later GB.out) (by omega)).mono ?_
      rintro e w9 ⟨rfl, q, rfl⟩
      have BE9 : Hid (Below w.heap.size w (wr.drewN q)) := below_drewN BE.out q
      go_wp2_with fail
      go_ret
      exact ⟨rfl, BE9.out⟩
end Go.Proofs.Ytbcegdiabnapkab
