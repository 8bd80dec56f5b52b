/-
  Walks of the functions that make operations and events in memory of their own.
-/
import Derived.Test.YtodbpplgpaokjabOut
import Derived.Test.YtodbpplgpaokjabW6
namespace Go.Proofs.Ytodbpplgpaokjab
open Go.RowKit Go.Lib

theorem Try.infoOp : (Try.prog.info? 35).map (fun i => (i.zero, i.size, i.bytes)) = some (some (.agg #[.int .i64 0, .string ByteArray.empty, .int .i64 0, .slice none 0 0, .bool false, .bool false]), 6, 64) := by kernel_rfl

theorem opRow_keep (S T : Nat → Prop) (w w' : World) (cs : List Value) (x : MOp) (h : OpRow S w cs x) (hk : KeepsIn S w w') (hT : ∀ b, b < w.heap.size → S b → T b) : OpRow T w' cs x := h.keep hk hT

set_option maxHeartbeats 2000000 in
set_option maxRecDepth 100000 in
theorem ops_walk {S : Nat → Prop} (a1 : Option Addr) (c1 n : Nat) (xs : List MOp) (w : World) (hx : xs.length = n) (hbytes : n * 64 ≤ 140737488355328)
    (h1 : RowCells 6 (OpRow S w) w a1 xs n) :
    Calls Try.prog 10 #[.slice a1 n c1] w fun e w' => ∃ v', e = .returned v' ∧ OpsIn (fun b => w.heap.size ≤ b) w' v' xs ∧ Below w.heap.size w w' := by
  obtain ⟨i0, hi, hz0, hz1, hz2⟩ := info_parts Try.infoOp
  have HX : Hid (xs.length = n) := hx
  clear hx
  go_enter Try.func10, Try.ntmps10
  go_wp2
  go_loopg [3, 5, 8] n (fun g v _ i wr => ∃ (k : Nat) (rows : List (List Value)), k ≤ n ∧ n - k ≤ g ∧ i = .int .i64 k ∧ Aside (Below w.heap.size w wr) ∧ Aside (OutInv 35 6 OpRow w.heap.size wr v k rows (xs.take k)))
  case atStart => exact ⟨0, [], Nat.zero_le _, by omega, rfl, Below.refl _ _, OutInv.nil _ _ _ _ _⟩
  case round =>
    obtain ⟨k, rows, hk, hg, rfl, BW, I⟩ := hrel
    by_cases hlt : k < n
    · have hlti : (k : Int) < (n : Int) := by omega
      obtain ⟨b1, o1, cs1, rfl, hb1, _, ⟨l1, rfl, i1⟩, k1⟩ := h1 k hlt
      clear h1
      have d0 : wr.cell? ⟨b1, o1 + k * 6, none⟩ = _ := (BW.out.cell (p := ⟨b1, o1 + k * 6, none⟩) hb1).trans (k1 0 _ rfl)
      have d1 := (BW.out.cell (p := ⟨b1, o1 + k * 6 + 1, none⟩) hb1).trans (k1 1 _ rfl)
      have d2 := (BW.out.cell (p := ⟨b1, o1 + k * 6 + 2, none⟩) hb1).trans (k1 2 _ rfl)
      have d3 := (BW.out.cell (p := ⟨b1, o1 + k * 6 + 3, none⟩) hb1).trans (k1 3 _ rfl)
      have d4 := (BW.out.cell (p := ⟨b1, o1 + k * 6 + 4, none⟩) hb1).trans (k1 4 _ rfl)
      have d5 := (BW.out.cell (p := ⟨b1, o1 + k * 6 + 5, none⟩) hb1).trans (k1 5 _ rfl)
      clear k1
      have hsz := BW.out.size
      have j1 := i1.keep (keeps_below BW.out) (fun _ _ h => h)
      clear i1
      have HT : Hid (xs.take (k + 1) = xs.take k ++ [xs.getD k default]) := by
        show xs.take (k + 1) = _
        rw [List.take_succ_eq_append_getElem (by rw [HX.out]; exact hlt)]
        simp [List.getD, List.getElem?_eq_getElem (show k < xs.length by rw [HX.out]; exact hlt)]
      generalize xs.getD k default = X at *
      obtain ⟨xk, xs1, xv, xl, xh, xn⟩ := X
      simp only [MOp.kind, MOp.key, MOp.value, MOp.list, MOp.has, MOp.nl] at *
      obtain ⟨al1, cl1, rfl, -⟩ := id j1
      go_wp2_with fail
      refine (clone_any (S := S) _ xl _ (j1.keep (keeps_below ((Below.refl _ wr).alloc (Nat.le_refl _) _)) (fun _ _ h => h))).mono ?_
      rintro e w1 ⟨v1, rfl, hv1, hb⟩
      clear d0 d1 d2 d3 d4 d5 j1
      obtain ⟨al, cl, rfl, -⟩ := id hv1
      have hs1 : wr.heap.size + 1 ≤ w1.heap.size := by have := hb.size; simpa using this
      have f0 : w1.cell? ⟨wr.heap.size, 0, none⟩ = some (.int .i64 xk) := (hb.cell (p := ⟨wr.heap.size, 0, none⟩) (by simp)).trans (by simp)
      have f1 : w1.cell? ⟨wr.heap.size, 1, none⟩ = some (.string xs1) := (hb.cell (p := ⟨wr.heap.size, 1, none⟩) (by simp)).trans (by simp)
      have f2 : w1.cell? ⟨wr.heap.size, 2, none⟩ = some (.int .i64 xv) := (hb.cell (p := ⟨wr.heap.size, 2, none⟩) (by simp)).trans (by simp)
      have f3 : w1.cell? ⟨wr.heap.size, 3, none⟩ = some (.slice al1 xl.length cl1) := (hb.cell (p := ⟨wr.heap.size, 3, none⟩) (by simp)).trans (by simp)
      have f4 : w1.cell? ⟨wr.heap.size, 4, none⟩ = some (.bool xh) := (hb.cell (p := ⟨wr.heap.size, 4, none⟩) (by simp)).trans (by simp)
      have f5 : w1.cell? ⟨wr.heap.size, 5, none⟩ = some (.bool xn) := (hb.cell (p := ⟨wr.heap.size, 5, none⟩) (by simp)).trans (by simp)
      have z3 : w1.frozen? ⟨wr.heap.size, 3, none⟩ = false := (hb.frozen (p := ⟨wr.heap.size, 3, none⟩) (by simp)).trans (by simp)
      have HV := hid hv1
      have HB := hid hb
      clear hv1 hb
      have B1 : Below wr.heap.size wr w1 := ((Below.refl _ wr).alloc (Nat.le_refl _) _).trans (HB.out.mono (by simp))
      have HB1 := hid B1
      clear B1
      go_wp2_with (at_builtin; refine wpList_append_lies _ rfl _ _ 26 rfl w.heap.size 35 i0 _ 6 64 Try.underlying26 hi hz0 hz1 hz2 rfl (by decide) u3 k rows.flatten rfl ?hown ⟨w1.heap.size, 0, none⟩ 1 1 [.int .i64 xk, .string xs1, .int .i64 xv, .slice al xl.length cl, .bool xh, .bool xn] rfl rfl ?hnews ?hone (by decide) ?h63 ?hby ?hbase (w1.heap.size + 1) ?hH ?_)
      case hown => exact I.out.own3 ((HB1.out.setCell (Nat.le_refl _) _).alloc (by simp [World.setCell]; omega) _)
      case hnews => exact World.news_of_block (by simpa [World.setCell] using heap_alloc_new (w1.setCell ⟨wr.heap.size, 3, none⟩ (.slice al xl.length cl)) (.cells #[.int .i64 xk, .string xs1, .int .i64 xv, .slice al xl.length cl, .bool xh, .bool xn] 35))
      case hone => intro u hu; simp at hu; rcases hu with rfl | rfl | rfl | rfl | rfl | rfl <;> rfl
      case h63 => unfold maxLen; omega
      case hby => omega
      case hbase => simp [World.setCell]; omega
      case hH => simp [World.setCell]
      intro g cap w4 hown4 hgrow hat hglt
      have B3 : Below wr.heap.size wr ((w1.setCell ⟨wr.heap.size, 3, none⟩ (.slice al xl.length cl)).alloc (.cells #[.int .i64 xk, .string xs1, .int .i64 xv, .slice al xl.length cl, .bool xh, .bool xn] 35)) := (HB1.out.setCell (Nat.le_refl _) _).alloc (by simp [World.setCell]; omega) _
      have hrow : OpRow (fun b => wr.heap.size < b) ((w1.setCell ⟨wr.heap.size, 3, none⟩ (.slice al xl.length cl)).alloc (.cells #[.int .i64 xk, .string xs1, .int .i64 xv, .slice al xl.length cl, .bool xh, .bool xn] 35)) [.int .i64 xk, .string xs1, .int .i64 xv, .slice al xl.length cl, .bool xh, .bool xn] ⟨xk, xs1, xv, xl, xh, xn⟩ := by
        refine ⟨_, rfl, HV.out.keep (fun b hb hbl => ?_) (fun b _ hb => ?_)⟩
        · have hb' : wr.heap.size + 1 ≤ b := by simpa using hb
          rw [Below.heap_alloc _ _ _ (by simpa [World.setCell] using hbl), Below.heap_setCell _ _ _ _ (by simp; omega)]
        · have hb' : wr.heap.size + 1 ≤ b := by simpa using hb
          omega
      have hbw4 : Below w.heap.size w w4 := BW.out.trans ((B3.mono hsz).grown hgrow (by simp [World.setCell]; omega) (fun x hx => (I.out.own.lt x hx).1))
      have I4 := hid (OutInv.step opRow_keep I.out hsz B3 hrow rfl hown4 hgrow (by simpa [World.setCell] using hat))
      have HBW4 := hid hbw4
      clear hown4 hgrow hat B3 hrow hbw4 f0 f1 f2 f3 f4 f5 z3
      go_wp2_with fail
      go_roundg (n - (k + 1))
      case measure => omega
      case rel => exact ⟨k + 1, rows ++ [_], by omega, by omega, by go_num, HBW4.out, (by show OutInv _ _ _ _ _ _ _ _ _; rw [HT.out]; exact I4.out)⟩
    · go_wp2
      go_ret
      have hkn : k = n := by omega
      subst hkn
      rw [← HX.out, List.take_length, HX.out] at I
      exact ⟨_, rfl, OutInv.rows_in (bytes := 64) opRow_keep I.out hbytes, BW.out⟩
end Go.Proofs.Ytodbpplgpaokjab
