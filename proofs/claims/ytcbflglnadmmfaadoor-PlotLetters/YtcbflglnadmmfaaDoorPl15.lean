/-
  The law PlotLetters.
-/
import Derived.Test.YtcbflglnadmmfaaDoorPl14
namespace Go.Proofs.YtcbflglnadmmfaaDoor
set_option linter.unusedVariables false
set_option linter.unusedSimpArgs false
open Go.RowKit Go.Lib

theorem lu64_mod (n : Int) (m : Nat) (hm : 0 < m) (hm2 : m ≤ 4294967296) : ∃ N : Nat, N < m ∧ wrap64 ((IntKind.u64.wrap n).tmod m) = N := by
  rw [IntKind.wrap_u64]
  have h0 : 0 ≤ n % 18446744073709551616 := Int.emod_nonneg _ (by decide)
  rw [Int.tmod_eq_emod_of_nonneg h0]
  have h1 := Int.emod_nonneg (n % 18446744073709551616) (show (m : Int) ≠ 0 by omega)
  have h2 := Int.emod_lt_of_pos (n % 18446744073709551616) (show (0 : Int) < m by omega)
  refine ⟨(n % 18446744073709551616 % m).toNat, by omega, ?_⟩
  unfold wrap64
  omega
theorem Tryd.infoS9 : (Tryd.prog.info? 9).map (fun i => (i.zero, i.size, i.bytes)) = some (some (.string ByteArray.empty), 1, 16) := by kernel_rfl
/-- The rows of a sheet, as Split tells them. -/
theorem split_rows (wd n : Nat) (S : List UInt8) (h : RowsOf wd n S) : countB ⟨S.toArray⟩ ⟨#[10]⟩ = n ∧ ∃ R : List ByteArray, splitB ⟨#[10]⟩ 0 n ⟨S.toArray⟩ = R ++ [⟨#[]⟩] ∧ R.length = n ∧ ∀ r ∈ R, r.size = wd := by
  obtain ⟨rs, h1, h2, rfl⟩ := h
  have hc : countB ⟨(flat rs).toArray⟩ ⟨#[10]⟩ = n := by
    show count (flat rs).toArray.toList [10] = n
    rw [List.toList_toArray, count_flat rs (fun r hr => (h2 r hr).2), h1]
  refine ⟨hc, ?_⟩
  have hd := splitB_data ⟨#[10]⟩ 0 n ⟨(flat rs).toArray⟩
  have e : splitK (⟨#[10]⟩ : ByteArray).data.toList 0 n (⟨(flat rs).toArray⟩ : ByteArray).data.toList = rs ++ [[]] := by
    show splitK [10] 0 n (flat rs).toArray.toList = _
    rw [List.toList_toArray, ← h1]
    exact split_flat rs (fun r hr => (h2 r hr).2)
  rw [e] at hd
  obtain ⟨X, hX⟩ : ∃ X, splitB ⟨#[10]⟩ 0 n ⟨(flat rs).toArray⟩ = X := ⟨_, rfl⟩
  rw [hX] at hd ⊢
  obtain ⟨A, Z, hAZ, hA, hZ⟩ := List.map_eq_append_iff.1 hd
  obtain ⟨z, hz1, hz2⟩ : ∃ z, Z = [z] ∧ z.data.toList = [] := by
    cases Z with
    | nil => simp at hZ
    | cons z r =>
      simp at hZ
      exact ⟨z, by rw [hZ.2], by simpa using hZ.1⟩
  have hze : z = ⟨#[]⟩ := by
    obtain ⟨zd⟩ := z
    have : zd = #[] := Array.toList_inj.1 (by simpa using hz2)
    rw [this]
  refine ⟨A, by rw [hAZ, hz1, hze], by rw [← h1, ← hA, List.length_map], fun r hr => ?_⟩
  have hm : r.data.toList ∈ rs := by rw [← hA]; exact List.mem_map.2 ⟨r, hr, rfl⟩
  have := (h2 _ hm).1
  rw [← this]
  exact Array.length_toList.symm
set_option maxHeartbeats 8000000 in
set_option maxRecDepth 100000 in
theorem letters_walk (n q mx : Int) (w : World) (hmx : w.cell? ⟨0, 0, none⟩ = some (.int .i64 mx)) : Calls Tryd.prog 3 #[.int .i64 n, .int .i64 q] w fun e w' => e = .returned (.bool true) ∧ Below w.heap.size w w' := by
  obtain ⟨M, hM, hD⟩ := lu64_mod n 100 (by omega) (by omega)
  have hD' : wrap64 ((IntKind.u64.wrap n).tmod 100) = (M : Int) := hD
  obtain ⟨N, hN⟩ : ∃ N, 1 + M = N := ⟨_, rfl⟩
  have hN1 : 1 + (M : Int) = (N : Int) := by omega
  have hNb : N ≤ 100 := by omega
  have hN0 : 0 < N := by omega
  have hbl := World.block_lt_of_cell? _ _ hmx
  clear hD hN
  have HMX : Hid (∀ W, Below w.heap.size w W → W.cell? ⟨0, 0, none⟩ = some (.int .i64 mx)) := fun W hb => (hb.cell (p := ⟨0, 0, none⟩) hbl).trans hmx
  clear hmx
  go_enter Tryd.func3, Tryd.ntmps3
  go_wp2_with fail
  refine (pSpiral_is _ _).mono ?_
  rintro e w1 ⟨v1, rfl, hr1, hb1⟩
  have espM : spM (N : Int) = N := by unfold spM; omega
  rw [espM] at hr1
  have C1 := hid (hr1.cf hNb)
  have B1 := hid hb1
  clear hr1 hb1
  go_wp2_with fail
  refine (pTurn_is q C1.out (pl_near N hNb) (fun k hk => turns_pl k (by omega)) hN0).mono ?_
  rintro e w2 ⟨v2, r, hr4, rfl, hc2, hb2⟩
  have C2 := hid hc2
  have B2 : Hid (Below w.heap.size w w2) := B1.out.trans (hb2.mono B1.out.size)
  obtain ⟨f, hf⟩ : ∃ f : Nat → Int × Int, (fun k => tuP r (pl k)) = f := ⟨_, rfl⟩
  have NF : Hid (Near f N) := by
    rw [← hf]
    exact ⟨hNb, fun k hk => tuP_range (pl k) ((pl_near N hNb).2 k hk) r⟩
  have FI : Hid (∀ i j, i < N → j < N → f i = f j → i = j) := by
    rw [← hf]
    exact fun i j hi hj h => pl_inj i j (by omega) (by omega) (tuP_inj r _ _ h)
  rw [hf] at C2
  obtain ⟨la, lc, hv2⟩ := own_slice C2.out
  subst hv2
  clear hc2 hb2 hf C1
  go_wp2_with fail
  refine (draw_is C2.out NF.out hN0).mono ?_
  rintro e w3 ⟨rfl, hb3⟩
  have B3 : Hid (Below w.heap.size w w3) := B2.out.trans (hb3.mono B2.out.size)
  clear hb3
  obtain ⟨hcnt, R, hsp, hRl, hRs⟩ := split_rows (wid f N) (hei f N) (sheetM f N N) (sheet_rows f N N (Nat.le_refl _))
  obtain ⟨k46, k10⟩ := sheet_count f N FI.out N (Nat.le_refl _)
  have hlen := sheetM_len f N N
  obtain ⟨wl, hl2, -, -⟩ := wid_le f N NF.out hN0
  have hw0 : 0 < wid f N := by unfold wid; omega
  have hh0 : 0 < hei f N := by unfold hei; omega
  obtain ⟨S, hS⟩ : ∃ S, sheetM f N N = S := ⟨_, rfl⟩
  obtain ⟨W0, hW0⟩ : ∃ W0, wid f N = W0 := ⟨_, rfl⟩
  obtain ⟨H0, hH0⟩ : ∃ H0, hei f N = H0 := ⟨_, rfl⟩
  rw [hS] at hcnt hsp k46 k10 hlen ⊢
  rw [hW0] at hRs k46 hlen wl hw0
  rw [hH0] at hcnt hsp hRl k46 k10 hlen hl2 hh0
  obtain ⟨s, hs⟩ : ∃ s : ByteArray, (⟨S.toArray⟩ : ByteArray) = s := ⟨_, rfl⟩
  have hsz : s.size = S.length := by rw [← hs]; show S.toArray.size = _; simp
  have hsd : s.data.toList = S := by rw [← hs]
  rw [hs] at hcnt hsp ⊢
  have hle : S.length ≤ 462 := by rw [hlen]; exact Nat.mul_le_mul hl2 (show W0 + 1 ≤ 22 by omega)
  have SP := hid (fun (W : World) (hb : Below w.heap.size w W) => Tryd.strings_Split Tryd.infoS9 s ⟨#[10]⟩ mx W (by omega) (HMX.out W hb) (by decide))
  rw [hcnt, hsp] at SP
  have C46 := hid (fun W => Tryd.strings_Count_one s 46 W)
  have C10 := hid (fun W => Tryd.strings_Count_one s 10 W)
  rw [hsd] at C46 C10
  unfold countByte at C46 C10
  obtain ⟨a46, ha46⟩ : ∃ a, S.count 46 = a := ⟨_, rfl⟩
  rw [ha46] at C46 k46
  rw [k10] at C10
  have hsum : (S.length : Int) - a46 - H0 = N := by
    have e1 : H0 * (W0 + 1) = H0 * W0 + H0 := Nat.mul_succ _ _
    omega
  have hszi : (s.size : Int) = S.length := by omega
  obtain ⟨L, hL⟩ : ∃ L, S.length = L := ⟨_, rfl⟩
  rw [hL] at hsum hszi hle
  clear hcnt hsp hs hsd hS hW0 hH0 k46 k10 ha46 HMX hlen hsz hL
  go_wp2_with (go_at_call 7; refine (SP.out _ B3.out).mono ?_; rintro e w4 ⟨rfl, rfl⟩)
  obtain ⟨w4, hw4⟩ : ∃ w4, w3.alloc (.cells (List.map Value.string R ++ [Value.string ⟨#[]⟩]).toArray 9) = w4 := ⟨_, rfl⟩
  have B4 : Hid (Below w.heap.size w w4) := by rw [← hw4]; exact B3.out.trans ((below_box w3 _).mono B3.out.size)
  have CE : Hid (∀ k, k < H0 → ∃ r : ByteArray, r.size = W0 ∧ w4.cell? ⟨w3.heap.size, k, none⟩ = some (.string r)) := fun k hk => by
    have hkR : k < R.length := by omega
    refine ⟨R[k], hRs _ (List.getElem_mem hkR), ?_⟩
    rw [← hw4, Lib.cell_of_heap (heap_alloc_new w3 _) k]
    simp [List.getElem?_append_left, hkR]
  have cl : w4.cell? ⟨w3.heap.size, H0, none⟩ = some (.string ⟨#[]⟩) := by
    rw [← hw4, Lib.cell_of_heap (heap_alloc_new w3 _) H0]
    simp [List.getElem?_append_right, hRl]
  obtain ⟨r0, hr0, c0⟩ := CE.out 0 hh0
  rw [hw4]
  clear hw4 SP hRs hRl
  have hr0i : (r0.size : Int) = W0 := by omega
  go_loopg [41] H0 (fun g i wr => ∃ k : Nat, k ≤ H0 ∧ H0 - k ≤ g ∧ i = .int .i64 k ∧ wr = w4)
  case atStart => exact ⟨0, Nat.zero_le _, by omega, rfl, rfl⟩
  case round =>
    obtain ⟨k, hk, hg, rfl, rfl⟩ := hrel
    by_cases hlt : k < H0
    · have hlti : (k : Int) < H0 := by omega
      obtain ⟨rk, hrk, ck⟩ := CE.out k hlt
      have hrki : (rk.size : Int) = W0 := by omega
      have hne : rk.toList.isEmpty = false := by
        rw [ByteArray.toList_eq]
        have : rk.data.toList.length = W0 := by rw [← hrk]; exact Array.length_toList
        cases hh : rk.data.toList with
        | nil => rw [hh] at this; simp at this; omega
        | cons _ _ => rfl
      go_wp2_with fail
      go_roundg (H0 - (k + 1))
      case measure => omega
      case rel => exact ⟨k + 1, by omega, by omega, by go_num, rfl⟩
    · obtain rfl : k = H0 := by omega
      have hlt2 : ¬ (k : Int) < k := by omega
      go_wp2_with fail
      refine (C46.out _).mono ?_
      rintro e w' ⟨rfl, rfl⟩
      go_wp2_with fail
      refine (C10.out _).mono ?_
      rintro e w' ⟨rfl, rfl⟩
      have hq : (((L : Int) - a46 - k) == (N : Int)) = true := by rw [beq_iff_eq]; exact hsum
      go_wp2_with fail
      go_ret
      exact ⟨rfl, B4.out⟩
end Go.Proofs.YtcbflglnadmmfaaDoor
