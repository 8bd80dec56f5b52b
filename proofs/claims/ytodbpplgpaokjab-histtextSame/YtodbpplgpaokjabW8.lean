/-
  Walk of the function that makes a history in memory of its own.
-/
import Derived.Test.YtodbpplgpaokjabW7
import Derived.Deep.RegionHeld3
import Derived.Deep.DrawnRows
namespace Go.Proofs.Ytodbpplgpaokjab
open Go.RowKit Go.Lib
attribute [local go_sem ↓] Go.wp_at_zero Go.wp_at_succ

/-- Ops hands the same operations back, in new memory. -/
theorem ops_any {S : Nat → Prop} (v : Value) (l : List MOp) (w : World) (h : OpsIn S w v l) :
    Calls Try.prog 10 #[v] w fun e w' => ∃ v', e = .returned v' ∧ OpsIn (fun b => w.heap.size ≤ b) w' v' l ∧ Below w.heap.size w w' := by
  obtain ⟨a1, c1, rfl, l1, k1⟩ := RowsIn.cells h (by omega)
  exact ops_walk a1 c1 l.length l w rfl l1 k1

theorem Try.infoEv : (Try.prog.info? 28).map (fun i => (i.zero, i.size, i.bytes)) = some (some (.agg #[.int .i64 0, .int .i64 0, .slice none 0 0]), 3, 40) := by kernel_rfl

theorem evRow_keep (S T : Nat → Prop) (w w' : World) (cs : List Value) (x : MEv) (h : EvRow S w cs x) (hk : KeepsIn S w w') (hT : ∀ b, b < w.heap.size → S b → T b) : EvRow T w' cs x := h.keep hk hT

set_option maxHeartbeats 4000000 in
set_option maxRecDepth 100000 in
theorem events_walk {S : Nat → Prop} (a1 : Option Addr) (c1 n : Nat) (xs : List MEv) (w : World) (hx : xs.length = n) (hbytes : n * 40 ≤ 140737488355328)
    (h1 : RowCells 3 (EvRow S w) w a1 xs n) :
    Calls Try.prog 6 #[.slice a1 n c1] w fun e w' => ∃ v', e = .returned v' ∧ EvsIn (fun b => w.heap.size ≤ b) w' v' xs ∧ Below w.heap.size w w' := by
  obtain ⟨i0, hi, hz0, hz1, hz2⟩ := info_parts Try.infoEv
  have HX : Hid (xs.length = n) := hx
  clear hx
  go_enter Try.func6, Try.ntmps6
  go_wp2
  go_loopg [3, 5, 8] n (fun g v _ i wr => ∃ (k : Nat) (rows : List (List Value)), k ≤ n ∧ n - k ≤ g ∧ i = .int .i64 k ∧ Aside (Below w.heap.size w wr) ∧ Aside (OutInv 28 3 EvRow w.heap.size wr v k rows (xs.take k)))
  case atStart => exact ⟨0, [], Nat.zero_le _, by omega, rfl, Below.refl _ _, OutInv.nil _ _ _ _ _⟩
  case round =>
    obtain ⟨k, rows, hk, hg, rfl, BW, I⟩ := hrel
    by_cases hlt : k < n
    · have hlti : (k : Int) < (n : Int) := by omega
      obtain ⟨b1, o1, cs1, rfl, hb1, _, ⟨l1, rfl, i1⟩, k1⟩ := h1 k hlt
      clear h1
      have d0 : wr.cell? ⟨b1, o1 + k * 3, none⟩ = _ := (BW.out.cell (p := ⟨b1, o1 + k * 3, none⟩) hb1).trans (k1 0 _ rfl)
      have d1 := (BW.out.cell (p := ⟨b1, o1 + k * 3 + 1, none⟩) hb1).trans (k1 1 _ rfl)
      have d2 := (BW.out.cell (p := ⟨b1, o1 + k * 3 + 2, none⟩) hb1).trans (k1 2 _ rfl)
      clear k1
      have hsz := BW.out.size
      have j1 := i1.keep (keeps_below BW.out) (fun _ _ h => h)
      clear i1
      have HT : Hid (xs.take (k + 1) = xs.take k ++ [xs.getD k default]) := by
        show xs.take (k + 1) = _
        rw [List.take_succ_eq_append_getElem (by rw [HX.out]; exact hlt)]
        simp [List.getD, List.getElem?_eq_getElem (show k < xs.length by rw [HX.out]; exact hlt)]
      generalize xs.getD k default = X at *
      obtain ⟨xk, xp, xl⟩ := X
      simp only [MEv.kind, MEv.proc, MEv.ops] at *
      obtain ⟨al1, cl1, rfl, -⟩ := id j1
      have H : Hid (∀ W, Below (wr.heap.size + 1) (wr.alloc (.cells #[.int .i64 xk, .int .i64 xp, .slice al1 xl.length cl1] 28)) W → Calls Try.prog 10 #[.slice al1 xl.length cl1] W fun e w' => ∃ al cl, e = .returned (.slice al xl.length cl) ∧ OpsIn (fun b => wr.heap.size + 1 ≤ b) w' (.slice al xl.length cl) xl ∧ Below (wr.heap.size + 1) (wr.alloc (.cells #[.int .i64 xk, .int .i64 xp, .slice al1 xl.length cl1] 28)) w') := fun W hW => by
        have hsW : wr.heap.size + 1 ≤ W.heap.size := by have := hW.size; simpa using this
        have B0 : Below wr.heap.size wr W := ((Below.refl _ wr).alloc (Nat.le_refl _) _).trans (hW.mono (by omega))
        refine (ops_any _ xl W (j1.keep (keeps_below B0) (fun _ _ h => h))).mono fun e w' ⟨v', he, ho, hb⟩ => ?_
        obtain ⟨al, cl, hv, -⟩ := id ho
        subst hv
        exact ⟨al, cl, he, ho.keep (fun _ _ _ => rfl) (fun b _ hb => by omega), hW.trans (hb.mono hsW)⟩
      clear j1
      go_wp2_with fail
      clear d0 d1 d2
      go_region_held3 (fun w' => w'.cell? ⟨wr.heap.size, 0, none⟩ = some (.int .i64 xk) ∧ w'.cell? ⟨wr.heap.size, 1, none⟩ = some (.int .i64 xp) ∧ w'.cell? ⟨wr.heap.size, 2, none⟩ = some (.slice al1 xl.length cl1))
        (first
          | go_keep
          | exact ⟨q0, q1, q2⟩
          | exact ⟨fc0 _, fc1 _, fc2 _⟩
          | exact ⟨(hgrow.cell_far _ (by simp; omega) hfar).trans (fc0 _), (hgrow.cell_far _ (by simp; omega) hfar).trans (fc1 _), (hgrow.cell_far _ (by simp; omega) hfar).trans (fc2 _)⟩)
        ((first
          | (go_at_call 10
             refine (H.out _ (by repeat (first | exact Below.refl _ _ | apply Below.drew))).mono ?_
             rintro e w1 ⟨al, cl, rfl, hv1, hb⟩
             have hs1 : wr.heap.size + 1 ≤ w1.heap.size := by have := hb.size; simpa using this
             have q0 : w1.cell? ⟨wr.heap.size, 0, none⟩ = some (.int .i64 xk) := (hb.cell (p := ⟨wr.heap.size, 0, none⟩) (by simp)).trans (by simp)
             have q1 : w1.cell? ⟨wr.heap.size, 1, none⟩ = some (.int .i64 xp) := (hb.cell (p := ⟨wr.heap.size, 1, none⟩) (by simp)).trans (by simp)
             have q2 : w1.cell? ⟨wr.heap.size, 2, none⟩ = some (.slice al1 xl.length cl1) := (hb.cell (p := ⟨wr.heap.size, 2, none⟩) (by simp)).trans (by simp)
             have fc0 : ∀ o, (w1.alloc o).cell? ⟨wr.heap.size, 0, none⟩ = some (.int .i64 xk) := fun o => Lib.cell?_alloc_some _ q0
             have fc1 : ∀ o, (w1.alloc o).cell? ⟨wr.heap.size, 1, none⟩ = some (.int .i64 xp) := fun o => Lib.cell?_alloc_some _ q1
             have fc2 : ∀ o, (w1.alloc o).cell? ⟨wr.heap.size, 2, none⟩ = some (.slice al1 xl.length cl1) := fun o => Lib.cell?_alloc_some _ q2
             have HV := hid hv1
             have HB1 : Hid (Below wr.heap.size wr w1) := ((Below.refl _ wr).alloc (Nat.le_refl _) _).trans (hb.mono (by omega))
             have hfar : some wr.heap.size ≠ u3.ownBlock := fun e => by have := (I.out.own.lt _ e.symm).2; omega
             clear hv1 hb)
          | (refine step_append_lies _ (by rfl) _ _ 22 (by rfl) w.heap.size 28 i0 _ 3 40 Try.underlying22 hi hz0 hz1 hz2 rfl (by decide) u3 k rows.flatten (by rfl) (I.out.own3 (HB1.out.alloc (by omega) _)) ⟨w1.heap.size, 0, none⟩ 1 1 [.int .i64 xk, .int .i64 xp, .slice al xl.length cl] (by rfl) (by rfl) (World.news_of_block (cs := #[.int .i64 xk, .int .i64 xp, .slice al xl.length cl]) (t := 28) (fr := (0, 0)) (heap_alloc_new w1 _)) (by simp [Value.oneCell']) (by decide) (by unfold maxLen; omega) (by omega) (by simp; omega) (w1.heap.size + 1) (by simp) ?_
             intro g cap w4 hown4 hgrow hat hglt)))
      have hs1' : wr.heap.size + 1 ≤ w1.heap.size := hs1
      have B3 : Below wr.heap.size wr (w1.alloc (.cells #[.int .i64 xk, .int .i64 xp, .slice al xl.length cl] 28)) := HB1.out.alloc (by omega) _
      have hrow : EvRow (fun b => wr.heap.size < b) (w1.alloc (.cells #[.int .i64 xk, .int .i64 xp, .slice al xl.length cl] 28)) [.int .i64 xk, .int .i64 xp, .slice al xl.length cl] ⟨xk, xp, xl⟩ :=
        ⟨_, rfl, HV.out.keep (fun b _ hbl => Below.heap_alloc _ _ _ hbl) (fun b _ hb => by omega)⟩
      have hbw4 : Below w.heap.size w w4 := BW.out.trans ((B3.mono hsz).grown hgrow (by simp; omega) (fun x hx => (I.out.own.lt x hx).1))
      have I4 := hid (OutInv.step evRow_keep I.out hsz B3 hrow rfl hown4 hgrow (by simpa using hat))
      have HBW4 := hid hbw4
      clear hown4 hgrow hat B3 hrow hbw4 q0 q1 q2 fc0 fc1 fc2 hfar
      go_wp2_with fail
      go_roundg (n - (k + 1))
      case measure => omega
      case rel => exact ⟨k + 1, rows ++ [_], by omega, by omega, by go_num, HBW4.out, (by show OutInv _ _ _ _ _ _ _ _ _; rw [HT.out]; exact I4.out)⟩
    · go_wp2
      go_ret
      have hkn : k = n := by omega
      subst hkn
      rw [← HX.out, List.take_length, HX.out] at I
      exact ⟨_, rfl, OutInv.rows_in (bytes := 40) evRow_keep I.out hbytes, BW.out⟩
/-- Events hands the same history back, in new memory. -/
theorem events_any {S : Nat → Prop} (v : Value) (l : List MEv) (w : World) (h : EvsIn S w v l) :
    Calls Try.prog 6 #[v] w fun e w' => ∃ v', e = .returned v' ∧ EvsIn (fun b => w.heap.size ≤ b) w' v' l ∧ Below w.heap.size w w' := by
  obtain ⟨a1, c1, rfl, l1, k1⟩ := RowsIn.cells h (by omega)
  exact events_walk a1 c1 l.length l w rfl l1 k1
end Go.Proofs.Ytodbpplgpaokjab
