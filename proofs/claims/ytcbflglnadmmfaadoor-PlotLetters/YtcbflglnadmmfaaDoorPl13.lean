/-
  Draw.
-/
import Derived.Test.YtcbflglnadmmfaaDoorPl12
import Derived.Laws.IdiomStrings
namespace Go.Proofs.YtcbflglnadmmfaaDoor
set_option linter.unusedVariables false
set_option linter.unusedSimpArgs false
open Go.RowKit Go.Lib

theorem Tryd.infoByte : (Tryd.prog.info? 5).map (fun i => (i.zero, i.size, i.bytes)) = some (some (.int .u8 0), 1, 1) := by kernel_rfl
theorem wpList_append_run {P : Program} (w : World) {ops : Array Oper} {rest : List Oper} {o : Oper} {a : Act} {Q : Exit → Act → World → Prop} (hgd : o.guard = none) (d s : Operand) (t : TypeId)
    (ho : o.op = .call { callee := .builtin .append, args := #[d, s], argTypes := #[t, t] }) (v u : Value) (hd : a.eval d = v) (hs : a.eval s = u) {v' : Value} {w' : World}
    (hr : (Builtin.append_ #[t, t] o.type #[v, u]).run P w = .ok v' w') (h : wpList P ops Q rest (a.put o.dst v') w') : wpList P ops Q (o :: rest) a w :=
  wpList_plain hgd fun _ hK => by
    unfold Oper.wp execOp
    simp only [ho, resolve, invoke, builtin, Sem.run_bind, Sem.run_pure, Result.andThen_ok, List.map_toArray, List.map_cons, List.map_nil, hd, hs, hr]
    exact hK _ _ h
theorem dot_holds (w : World) : HoldsBytes (w.alloc (.cells #[.int .u8 46] 5)) (.slice (some ⟨w.heap.size, 0, none⟩) 1 1) [46] := by
  refine ⟨some ⟨w.heap.size, 0, none⟩, 1, rfl, fun c => (by cases c), fun a ha j x hx => ?_⟩
  injection ha with ha
  subst ha
  have hj : j = 0 := by
    have := (List.getElem?_eq_some_iff.1 hx).1
    simpa using this
  subst hj
  obtain rfl : x = 46 := by simpa using hx.symm
  rw [Addr.add_lit]
  exact Lib.cell_of_heap (heap_alloc_new w _) 0
theorem repL_one (n : Nat) : repL [46] n = List.replicate n 46 := by
  induction n with
  | zero => rfl
  | succ n ih => unfold repL at *; rw [List.replicate_succ, List.flatten_cons, ih, List.replicate_succ]; rfl
set_option maxHeartbeats 8000000 in
set_option maxRecDepth 100000 in
theorem draw_is {B : Nat} {w : World} {v : Value} {f : Nat → Int × Int} {m : Nat} (h : CF B w v f m) (hn : Near f m) (h0 : 0 < m) :
    Calls Tryd.prog 6 #[v] w fun e w' => e = .returned (.tuple #[.string ⟨(sheetM f m m).toArray⟩, .int .i64 0]) ∧ Below w.heap.size w w' := by
  have H := hid h
  have HN := hid hn
  obtain ⟨va, vc, rfl⟩ := own_slice h
  have hm := hn.1
  obtain ⟨vg, vcap, hvf, hvl⟩ := World.ownsRow.form h (by omega)
  cases hvf
  obtain ⟨i0, hi0, hz0, hz1, hz2⟩ := info_parts Tryd.infoByte
  have h0i : (0 : Int) < m := by omega
  have hmi : (m : Int) ≤ 100 := by omega
  have hm0 : ((m : Int) == 0) = false := by simp; omega
  have hl := lo_range f m hn h0 m (Nat.le_refl _)
  have hh := hi_range f m hn h0 m (Nat.le_refl _)
  obtain ⟨wl, hl2, ew, eh⟩ := wid_le f m hn h0
  have LOI : Hid (∀ k, k < m → ((lo f m).1 ≤ (f k).1 ∧ (lo f m).2 ≤ (f k).2) ∧ (f k).1 ≤ (hi f m).1 ∧ (f k).2 ≤ (hi f m).2) := fun k hk => ⟨lo_le f m k hk, hi_ge f m k hk⟩
  have w0 : 0 < wid f m := by unfold wid; omega
  have h00 : 0 < hei f m := by unfold hei; omega
  have cs1 := fun W => csub_at (hi f m) (lo f m) hh hl W
  have cv1 := fun W => conv_at (hi f m).1 (lo f m).1 (by omega) (by omega) W
  have cv2 := fun W => conv_at (hi f m).2 (lo f m).2 (by omega) (by omega) W
  rw [ew] at cv1 cs1
  rw [eh] at cv2 cs1
  obtain ⟨W0, hW0⟩ : ∃ W0, wid f m = W0 := ⟨_, rfl⟩
  obtain ⟨H0, hH0⟩ : ∃ H0, hei f m = H0 := ⟨_, rfl⟩
  rw [hW0] at ew wl w0 cv1 cs1
  rw [hH0] at eh hl2 h00 cv2 cs1
  have HW0 := hid hW0
  have HH0 := hid hH0
  have HLO := hid hl
  have HHI := hid hh
  have EW := hid ew
  have EH := hid eh
  have RB : Hid (∀ (W : World) (u : Value), HoldsBytes W u (rowM W0) → Calls Tryd.prog 14 #[u, .int .i64 (H0 : Int)] W fun e w' => e = .returned (.slice (some ⟨W.heap.size, 0, none⟩) (H0 * (W0 + 1)) (H0 * (W0 + 1))) ∧ Buf W w' W.heap.size (H0 * (W0 + 1)) (sheetM f m 0)) := fun W u hu => by
    have hle : H0 * (W0 + 1) ≤ 21 * 22 := Nat.mul_le_mul hl2 (by omega)
    have q := repeat_is W u (rowM W0) H0 hu (by rw [rowM_len]; omega) h00 (by rw [rowM_len]; omega)
    rw [rowM_len] at q
    refine q.mono fun e w' ⟨a, b⟩ => ⟨a, ?_⟩
    rw [sheetM, HW0.out, HH0.out]
    exact b
  have RA : Hid (∀ W : World, Calls Tryd.prog 14 #[.slice (some ⟨W.heap.size, 0, none⟩) 1 1, .int .i64 (W0 : Int)] (W.alloc (.cells #[.int .u8 46] 5)) fun e w' => e = .returned (.slice (some ⟨W.heap.size + 1, 0, none⟩) W0 W0) ∧ Buf (W.alloc (.cells #[.int .u8 46] 5)) w' (W.heap.size + 1) W0 (List.replicate W0 46)) := fun W => by
    have q := repeat_is _ _ [46] W0 (dot_holds W) (by decide) w0 (by simp; omega)
    simp only [List.length_singleton, Nat.mul_one, repL_one, alloc_size] at q
    exact q
  have hwi : (W0 : Int) - 1 + 1 = W0 := by omega
  have hhi2 : (H0 : Int) - 1 + 1 = H0 := by omega
  clear h hn hl hh ew eh hW0 hH0
  go_enter Tryd.func6, Tryd.ntmps6
  go_wp2_with (first
    | (go_at_call 12; refine (areWhole_is H.out HN.out).mono ?_; rintro e w1 ⟨rfl, rfl⟩)
    | (go_at_call 13; refine (corners_is H.out HN.out h0).mono ?_; rintro e w1 ⟨rfl, hb1⟩; have B1 := hid hb1; clear hb1; unfold cP))
  refine (RA.out w1).mono ?_
  rintro e w2 ⟨rfl, b2⟩
  have z2 : w1.heap.size + 2 ≤ w2.heap.size ∨ True := .inr trivial
  have B2 : Hid (Below w.heap.size w w2) := B1.out.trans (((below_box w1 (.cells #[.int .u8 46] 5)).mono B1.out.size).trans (b2.below.mono (by have := B1.out.size; omega)))
  have hap := run_append_grow (P := Tryd.prog) (w2.alloc (.cells #[.int .u8 10] 5)) 42 42 5 i0 (.int .u8 0) Tryd.underlying42 hi0 hz0 ⟨w1.heap.size + 1, 0, none⟩ W0 W0 (List.replicate W0 (.int .u8 46)) (by rw [hz1]; simp) (fun j x hx => by
      have hj : j < W0 := by have := (List.getElem?_eq_some_iff.1 hx).1; simpa using this
      obtain rfl : x = .int .u8 46 := by rw [List.getElem?_replicate, if_pos hj] at hx; injection hx with hx; exact hx.symm
      rw [Addr.add_lit, Nat.zero_add]
      have q := b2.holds j 46 (by rw [List.getElem?_replicate, if_pos hj])
      exact Lib.cell?_alloc_some _ q) ⟨w2.heap.size, 0, none⟩ 1 1 [.int .u8 10] (by rw [hz1]; rfl) (fun j x hx => by
      have hj : j = 0 := by have := (List.getElem?_eq_some_iff.1 hx).1; simpa using this
      subst hj
      rw [Addr.add_lit]
      have q : (w2.alloc (.cells #[.int .u8 10] 5)).cell? ⟨w2.heap.size, 0, none⟩ = some (.int .u8 10) := Lib.cell_of_heap (heap_alloc_new w2 _) 0
      rw [Nat.zero_add, q]
      simpa using hx) (by omega) (by omega) (by rw [hz2]; have := nextcap_small W0 (by omega); omega)
  obtain ⟨gc, hgc⟩ : ∃ gc, grownCap (w2.alloc (.cells #[.int .u8 10] 5)) (W0 + 1) W0 5 = gc := ⟨_, rfl⟩
  rw [hgc] at hap
  obtain ⟨w4, hw4⟩ : ∃ w4, (w2.alloc (.cells #[.int .u8 10] 5)).drew.alloc (.cells ((List.replicate W0 (Value.int .u8 46)).toArray ++ [Value.int .u8 10].toArray ++ Builtin.zeroCells (Value.int .u8 0).cells (gc - (W0 + 1))) 5) = w4 := ⟨_, rfl⟩
  rw [hw4, alloc_size] at hap
  have HB4 : Hid (HoldsBytes w4 (.slice (some ⟨w2.heap.size + 1, 0, none⟩) (W0 + 1) gc) (rowM W0)) := by
    refine ⟨some ⟨w2.heap.size + 1, 0, none⟩, gc, by rw [rowM_len], fun c => (by cases c), fun a ha j x hx => ?_⟩
    injection ha with ha
    subst ha
    rw [Addr.add_lit, Nat.zero_add, ← hw4]
    have q := Lib.cell_of_heap (heap_alloc_new (w2.alloc (.cells #[.int .u8 10] 5)).drew (.cells ((List.replicate W0 (Value.int .u8 46)).toArray ++ [Value.int .u8 10].toArray ++ Builtin.zeroCells (Value.int .u8 0).cells (gc - (W0 + 1))) 5)) j
    have e1 : (w2.alloc (.cells #[.int .u8 10] 5)).drew.heap.size = w2.heap.size + 1 := alloc_size _ _
    rw [e1] at q
    rw [q]
    have hj : j < W0 + 1 := by have := (List.getElem?_eq_some_iff.1 hx).1; rw [rowM_len] at this; exact this
    rw [Array.getElem?_append_left (by simp; omega)]
    unfold rowM at hx
    by_cases hjw : j < W0
    · rw [List.getElem?_append_left (by simpa using hjw), List.getElem?_replicate, if_pos hjw] at hx
      injection hx with hx
      subst hx
      simp [Array.getElem?_append_left, hjw]
      rw [Array.getElem?_push, if_neg (by simp; omega)]
      simp [hjw]
    · have hj2 : j = W0 := by omega
      subst hj2
      rw [List.getElem?_append_right (by simp)] at hx
      simp at hx
      subst hx
      simp
      rw [Array.getElem_push, dif_neg (by simp)]
  have B4 : Hid (Below w.heap.size w w4) := by
    have e1 := B2.out.size
    refine B2.out.trans ((below_box w2 (.cells #[.int .u8 10] 5)).mono e1 |>.trans ?_)
    rw [← hw4]
    exact (((Below.refl _ (w2.alloc (.cells #[.int .u8 10] 5))).drew).alloc (Nat.le_refl _) _).mono (by show w.heap.size ≤ (w2.alloc (.cells #[.int .u8 10] 5)).heap.size; rw [alloc_size]; omega)
  have HAP := hid hap
  clear hw4 b2 hgc hap
  go_wp2_with (first | (at_builtin; refine wpList_append_run _ rfl _ _ 42 rfl _ _ rfl rfl HAP.out ?_) | (go_at_call 14; refine (RB.out _ _ HB4.out).mono ?_; rintro e w5 ⟨rfl, b5⟩; have B5 := hid b5; clear b5))
  obtain ⟨N, hN⟩ : ∃ N, H0 * (W0 + 1) = N := ⟨_, rfl⟩
  have HNN := hid hN
  have hNb : N ≤ 462 := by rw [← hN]; exact Nat.mul_le_mul hl2 (show W0 + 1 ≤ 22 by omega)
  rw [hN] at B5 ⊢
  have PL : Hid (∀ k, k < m → posM f m k < N) := fun k hk => by have := pos_lt f m k hk; rw [HW0.out, HH0.out, hN] at this; exact this
  have SL : Hid (∀ k, (sheetM f m k).length = N) := fun k => by rw [sheetM_len, HW0.out, HH0.out, hN]
  clear hN RA RB HAP HB4 cs1 cv1 cv2
  go_loopg [51] m (fun g i wr => ∃ k : Nat, k ≤ m ∧ m - k ≤ g ∧ i = .int .i64 k ∧ Aside (Buf w4 wr w4.heap.size N (sheetM f m k)))
  case atStart => exact ⟨0, Nat.zero_le _, by omega, rfl, B5.out⟩
  case round =>
    obtain ⟨k, hk, hg, rfl, BA⟩ := hrel
    have BR : Hid (Below w.heap.size w wr) := B4.out.trans (BA.out.below.mono B4.out.size)
    by_cases hlt : k < m
    · have hlti : (k : Int) < m := by omega
      have c0 : wr.cell? ⟨vg, k, none⟩ = some (.complex .f64 (fb (f k).1) (fb (f k).2)) := (BR.out.cell (p := ⟨vg, k, none⟩) hvl.2).trans (H.out.cell k hlt)
      have hr := HN.out.2 k hlt
      have hlo := LOI.out k hlt
      have s1 := fun W => csub_at (f k) (lo f m) hr HLO.out W
      have s2 := fun W => csub_at (hi f m) (f k) HHI.out hr W
      have v1 := fun W => conv_at (f k).1 (lo f m).1 (by omega) (by have := HLO.out; omega) W
      have v2 := fun W => conv_at (hi f m).2 (f k).2 (by have := HHI.out; omega) (by omega) W
      obtain ⟨C, hC⟩ : ∃ C : Nat, ((f k).1 - (lo f m).1).toNat = C := ⟨_, rfl⟩
      obtain ⟨D, hD⟩ : ∃ D : Nat, ((hi f m).2 - (f k).2).toNat = D := ⟨_, rfl⟩
      have eC : (f k).1 - (lo f m).1 = (C : Int) := by omega
      have eD : (hi f m).2 - (f k).2 = (D : Int) := by omega
      have hp := PL.out k hlt
      have hP : posM f m k = D * (W0 + 1) + C := by unfold posM; rw [hC, hD, HW0.out]
      rw [hP] at hp
      have HPO := hid hP
      rw [eC] at s1 v1
      rw [eD] at s2 v2
      obtain ⟨E, hE⟩ : ∃ E : Nat, D * (W0 + 1) = E := ⟨_, rfl⟩
      rw [hE] at hp HPO
      have eE : (D : Int) * ((W0 : Int) + 1) = (E : Int) := by rw [← hE]; push_cast; rfl
      have eE2 : (D : Int) * ((W0 + 1 : Nat) : Int) = (E : Int) := by rw [← hE]; push_cast; rfl
      have hpi : (E : Int) + C < N := by omega
      have hE0 : (0 : Int) ≤ (E : Int) + C := by omega
      obtain ⟨u0, hu0⟩ := Option.isSome_iff_exists.1 (BA.out.there (E + C) hp)
      have fz := BA.out.free (E + C) hp
      clear hC hD hP hE hlo hr
      go_wp2_with fail
      go_roundg (m - (k + 1))
      case measure => omega
      case rel =>
        refine ⟨k + 1, by omega, by omega, by go_num, ?_⟩
        have q := Buf.put BA.out (E + C) hp (letM k)
        have e1 : (((letM k).toNat : Nat) : Int) = 97 + (k : Int) % 26 := by
          unfold letM
          rw [UInt8.toNat_ofNat']
          omega
        rw [e1] at q
        show Buf _ _ _ _ _
        rw [sheetM, HPO.out]
        exact q
    · obtain rfl : k = m := by omega
      have hlt2 : ¬ (k : Int) < k := by omega
      have hcv : (convert 42 9 (.slice (some ⟨w4.heap.size, 0, none⟩) N N)).run Tryd.prog wr = .ok (.string ⟨(sheetM f k k).toArray⟩) wr := by
        have hcl : (sheetM f k k).length = N := SL.out k
        have q := run_convert_bytes_back (P := Tryd.prog) wr 42 9 5 ⟨w4.heap.size, 0, none⟩ N (sheetM f k k) Tryd.underlying42 Tryd.underlying5 Tryd.underlying9 (fun j hj => by
          rw [Addr.add_lit, Nat.zero_add]
          exact BA.out.holds j _ (List.getElem?_eq_getElem hj))
        rw [hcl] at q
        exact q
      go_wp2_with fail
      go_ret2
      exact ⟨rfl, BR.out⟩
end Go.Proofs.YtcbflglnadmmfaaDoor
