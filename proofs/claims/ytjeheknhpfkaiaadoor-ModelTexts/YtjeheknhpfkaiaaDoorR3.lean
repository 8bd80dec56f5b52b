/-
  The document's Value and right.
-/
import Derived.Test.YtjeheknhpfkaiaaDoorR2
namespace Go.Proofs.YtjeheknhpfkaiaaDoor
set_option linter.unusedVariables false
set_option linter.unusedSimpArgs false
open Go.RowKit Go.Lib

theorem reg_take (L : List MOp) (key : ByteArray) (k : Nat) (h : k < L.length) : regM (L.take (k + 1)) key = if (L.getD k default).kind = 3 ∧ (L.getD k default).key = key then some (L.getD k default).value else regM (L.take k) key := by
  have e : L.take (k + 1) = L.take k ++ [L.getD k default] := by
    rw [List.take_succ_eq_append_getElem h]
    simp [List.getD, List.getElem?_eq_getElem h]
  rw [e, reg_snoc]
set_option maxHeartbeats 2000000 in
set_option maxRecDepth 100000 in
/-- The document's register. -/
theorem rvalue_is (B : Nat) (w : World) (xb : Nat) (v : Value) (L : List MOp) (key : ByteArray) (h : Rst B w xb v L) (hL : L.length ≤ 1099511627776) :
    Calls Tryd.prog 18 #[.pointer (some ⟨xb, 0, none⟩), .string key] w fun e w' => e = .returned (.tuple #[.int .i64 (rgV (regM L key)), .bool (regM L key).isSome]) ∧ w = w' := by
  obtain ⟨a, c, rfl, hcap, hc⟩ := h.cells
  have hob := Lib.cell_of_heap h.ob 0
  have HC := hid hc
  have hlen : (L.length : Int) ≤ 1099511627776 := by omega
  clear hc h
  go_enter Tryd.func18, Tryd.ntmps18
  go_wp2_with fail
  go_loopg [6] L.length (fun g i wr => ∃ m : Nat, m ≤ L.length ∧ m ≤ g ∧ i = .int .i64 ((m : Int) - 1) ∧ Aside (wr = w) ∧ Aside (regM (L.take m) key = regM L key))
  case atStart => exact ⟨L.length, Nat.le_refl _, Nat.le_refl _, rfl, rfl, by show regM _ _ = _; rw [List.take_length]⟩
  case round =>
    obtain ⟨m, hm, hg, rfl, hw, RG⟩ := hrel
    have hw2 : wr = w := hw
    subst hw2
    clear hw
    cases m with
    | zero =>
      have HR : Hid (regM L key = none) := by show _ = _; rw [← RG.out]; rfl
      have h1 : ((0 : Nat) : Int) - 1 = -1 := by omega
      rw [h1]
      go_wp2_with fail
      go_ret2
      rw [HR.out]
      exact ⟨rfl, rfl⟩
    | succ k =>
      have hlt : k < L.length := by omega
      have hk1 : ((k + 1 : Nat) : Int) - 1 = k := by omega
      rw [hk1]
      have hk0 : (0 : Int) ≤ k := by omega
      have hkl : (k : Int) < L.length := by omega
      obtain ⟨b, lv, rfl, ⟨la, ln, lc, rfl⟩, hbl, c0, c1, c2, c3, c4, c5⟩ := HC.out k hlt
      have HN := hid (reg_take L key k hlt)
      obtain ⟨O, hO⟩ : ∃ O, L.getD k default = O := ⟨_, rfl⟩
      rw [hO] at c0 c1 c2 c4 c5 HN
      clear hO hk1
      by_cases h1 : O.kind = 3
      · have e1 : (O.kind == 3) = true := by simp [h1]
        have H1 := hid h1
        clear h1
        by_cases h2 : O.key = key
        · have e2 : (O.key.toList == key.toList) = true := by simp [h2]
          have HR : Hid (regM L key = some O.value) := by show _ = _; rw [← RG.out, HN.out, if_pos ⟨H1.out, h2⟩]
          clear h2 HN RG
          go_wp2_with fail
          go_ret2
          rw [HR.out]
          exact ⟨rfl, rfl⟩
        · have e2 : (O.key.toList == key.toList) = false := by
            rw [beq_eq_false_iff_ne]
            exact fun c => h2 (bytes_eq c)
          have HE : Hid (regM (L.take k) key = regM L key) := by show _ = _; rw [← RG.out, HN.out, if_neg (fun c => h2 c.2)]
          clear h2 HN RG
          go_wp2_with fail
          go_roundg k
          case rel => exact ⟨k, by omega, by omega, by go_num, rfl, HE.out⟩
          case measure => omega
      · have e1 : (O.kind == 3) = false := by simp [h1]
        have HE : Hid (regM (L.take k) key = regM L key) := by show _ = _; rw [← RG.out, HN.out, if_neg (fun c => h1 c.1)]
        clear h1 HN RG
        go_wp2_with fail
        go_roundg k
        case rel => exact ⟨k, by omega, by omega, by go_num, rfl, HE.out⟩
        case measure => omega

set_option maxHeartbeats 2000000 in
theorem rright_has (w : World) (p : Value) (o : MOp) (la : Option Addr) (ln lc : Nat) (ho : o.has = false) :
    Calls Tryd.prog 26 #[p, opV o (.slice la ln lc)] w fun e w' => e = .returned (.bool true) ∧ Below w.heap.size w w' := by
  obtain ⟨ok, os, ox, ol, oh, on⟩ := o
  unfold opV
  simp only [MOp.kind, MOp.key, MOp.value, MOp.list, MOp.has, MOp.nl] at *
  subst ho
  go_enter Tryd.func26, Tryd.ntmps26
  go_wp2_with fail
  go_ret
  exact ⟨rfl, below_box w _⟩
set_option maxHeartbeats 2000000 in
theorem rright_none (w : World) (p : Value) (o : MOp) (la : Option Addr) (ln lc : Nat) (ho : o.has = true) (h2 : o.kind ≠ 2) (h4 : o.kind ≠ 4) :
    Calls Tryd.prog 26 #[p, opV o (.slice la ln lc)] w fun e w' => e = .returned (.bool true) ∧ Below w.heap.size w w' := by
  obtain ⟨ok, os, ox, ol, oh, on⟩ := o
  unfold opV
  simp only [MOp.kind, MOp.key, MOp.value, MOp.list, MOp.has, MOp.nl] at *
  subst ho
  have e1 : (ok == 2) = false := by simp [h2]
  have e3 : (ok == 4) = false := by simp [h4]
  go_enter Tryd.func26, Tryd.ntmps26
  go_wp2_with fail
  go_ret
  exact ⟨rfl, below_box w _⟩
set_option maxHeartbeats 2000000 in
theorem rright_read (B : Nat) (w : World) (xb : Nat) (v : Value) (L : List MOp) (h : Rst B w xb v L) (hL : L.length ≤ 1099511627776) (o : MOp) (lv : Value) (hl : IntsIn Any w lv o.list) (ho : o.has = true) (h2 : o.kind = 2) :
    Calls Tryd.prog 26 #[.pointer (some ⟨xb, 0, none⟩), opV o lv] w fun e w' => e = .returned (.bool (sameB o.list (lstM L o.key))) ∧ Below w.heap.size w w' := by
  obtain ⟨a1, c1, rfl, ⟨b1, g1⟩, k1⟩ := hl.cells
  obtain ⟨M, hM⟩ : ∃ M, o.list.length = M := ⟨_, rfl⟩
  rw [hM] at k1 b1 g1 ⊢
  have HMM := hid hM
  have HK := hid k1
  have HR := hid h
  clear h hl k1 hM
  obtain ⟨ok, os, ox, ol, oh, on⟩ := o
  unfold opV
  simp only [MOp.kind, MOp.key, MOp.value, MOp.list, MOp.has, MOp.nl] at *
  subst ho h2
  go_enter Tryd.func26, Tryd.ntmps26
  go_wp2_with fail
  obtain ⟨W, hW⟩ : ∃ W, w.alloc (.cells #[.int .i64 2, .string os, .int .i64 ox, .slice a1 M c1, .bool true, .bool on] 56) = W := ⟨_, rfl⟩
  have BW : Hid (Below w.heap.size w W) := by rw [← hW]; exact below_box w _
  have HBx : Hid (W.heap[w.heap.size]? = some (.cells #[.int .i64 2, .string os, .int .i64 ox, .slice a1 M c1, .bool true, .bool on] 56)) := by rw [← hW]; show (w.alloc _).heap[w.heap.size]? = _; rw [alloc_at, if_pos rfl]
  rw [hW]
  clear hW
  have d1 : W.cell? ⟨w.heap.size, 1, none⟩ = some (.string os) := Lib.cell_of_heap HBx.out 1
  have d3 : W.cell? ⟨w.heap.size, 3, none⟩ = some (.slice a1 M c1) := Lib.cell_of_heap HBx.out 3
  have RW : Hid (∀ q, Rst B (W.drewN q) xb v L) := fun q => HR.out.later (below_drewN BW.out q)
  have RW1 : Hid (Rst B W.drew xb v L) := HR.out.later (below_drewN BW.out 1)
  go_region_held3 (fun w' => w'.cell? ⟨w.heap.size, 1, none⟩ = some (.string os) ∧ w'.cell? ⟨w.heap.size, 3, none⟩ = some (.slice a1 M c1)) (go_keep) (first
    | (go_at_call 20
       refine (rlist_is B _ xb v L os RW1.out hL).mono ?_
       rintro e w5 ⟨u5, rfl, o5, b5⟩
       obtain ⟨ua, uc, hu, hucells⟩ := own_cells o5
       subst hu
       have UC := hid hucells
       have C5 : Hid (Below W.heap.size W w5) := ⟨b5.os, b5.tape, b5.output, b5.size, b5.block⟩
       clear o5 b5 hucells
       have k51 : w5.cell? ⟨w.heap.size, 1, none⟩ = some (.string os) := (C5.out.cell (p := ⟨w.heap.size, 1, none⟩) (blt HBx.out)).trans d1
       have k53 : w5.cell? ⟨w.heap.size, 3, none⟩ = some (.slice a1 M c1) := (C5.out.cell (p := ⟨w.heap.size, 3, none⟩) (blt HBx.out)).trans d3)
    | (go_at_call 19
       refine (sameList_cells a1 ua c1 uc M _ ol (lstM L os) w5 HMM.out rfl (by omega) (HK.out.later (BW.out.trans (C5.out.mono BW.out.size))) UC.out).mono ?_
       rintro e w6 ⟨rfl, q6, rfl⟩))
  all_goals (try go_wp2_with fail)
  all_goals (go_ret; exact ⟨rfl, below_drewN (BW.out.trans (C5.out.mono BW.out.size)) _⟩)
end Go.Proofs.YtjeheknhpfkaiaaDoor
