/-
  What a transaction does with each thing: the walk of uses.
-/
import Derived.Test.YtadlnkaphkbfdaaIn6
import Derived.Test.YtadlnkaphkbfdaaIn30
import Derived.Test.YtadlnkaphkbfdaaRm
namespace Go.Proofs.Ytadlnkaphkbfdaa
set_option linter.unusedVariables false
set_option linter.unusedSimpArgs false
open Go.RowKit Go.Lib Go.Maps

def useV (u : Int × Int) : Value := .agg #[.int .i64 u.1, .int .i64 u.2]
theorem zero69 (w : World) : (zeroValue 69).run Try.prog w = .ok (useV (0, 0)) w := by kernel_rfl
/-- The map holds the uses. -/
def Used (w : World) (mb n : Nat) (U : Us) : Prop :=
  ∃ f : Value → Option Value, MapV w Try.prog 63 mb n f ∧ (∀ t s, f (thV t s) = (U t s).map useV) ∧ ∀ key v, f key = some v → ∃ t s, key = thV t s ∧ ∃ kl, keyOf Try.prog 63 key = some kl
theorem Used.made (w : World) (l : List MOp) : Used (w.alloc (.map #[] 0)) w.heap.size 0 (usAt l 0) := ⟨_, MapV.made w _ _, fun _ _ => rfl, fun _ _ h => by cases h⟩
theorem Used.lt {w : World} {mb n : Nat} {U : Us} (h : Used w mb n U) : mb < w.heap.size := by obtain ⟨f, h1, _⟩ := h; exact h1.lt
theorem Used.same {w w' : World} {mb n : Nat} {U : Us} (h : Used w mb n U) (hb : w'.heap[mb]? = w.heap[mb]?) : Used w' mb n U := by
  obtain ⟨f, h1, h2, h3⟩ := h
  exact ⟨f, h1.same hb, h2, h3⟩
theorem Used.mono {w : World} {mb n m : Nat} {U : Us} (h : Used w mb n U) (hn : n ≤ m) : Used w mb m U := by
  obtain ⟨f, h1, h2, h3⟩ := h
  exact ⟨f, h1.mono hn, h2, h3⟩
theorem Used.look {w : World} {mb n : Nat} {U : Us} (h : Used w mb n U) (o : MOp) (hk : OpKey o) : (Instr.lookup 120 (.map (some mb)) (thV (thg o.kind) o.key) true).run Try.prog w = .ok (.tuple #[useV ((U (thg o.kind) o.key).getD (0, 0)), .bool (U (thg o.kind) o.key).isSome]) w := by
  obtain ⟨f, h1, h2, _⟩ := h
  obtain ⟨kl, hk⟩ := hk
  rw [h1.look_ok keys63 Try.underlying120 (zero69 w) hk, h2]
  cases U (thg o.kind) o.key <;> rfl
theorem Used.put {w : World} {mb n : Nat} {U : Us} (h : Used w mb n U) (o : MOp) (hk : OpKey o) (hn : n < maxLen) (u : Int × Int) :
    ∃ w', (Instr.mapUpdate 120 (.map (some mb)) (thV (thg o.kind) o.key) (useV u)).run Try.prog w = .ok () w' ∧ Used w' mb (n + 1) (U.put (thg o.kind) o.key u) ∧ w.grownBy w' (some mb) := by
  obtain ⟨f, h1, h2, h3⟩ := h
  obtain ⟨kl, hk⟩ := hk
  obtain ⟨w', g, r1, hp, r2, r3⟩ := h1.put keys63 Try.underlying120 hn (useV u) hk
  refine ⟨w', r1, ⟨g, r2, fun t s => ?_, fun key v hv => ?_⟩, r3⟩
  · by_cases e : t = thg o.kind ∧ s = o.key
    · obtain ⟨rfl, rfl⟩ := e
      rw [hp.1, Us.put_same]
      rfl
    · rw [hp.2 _ (fun c => e (thV_inj c)), Us.put_other _ _ _ _ _ _ e]
      exact h2 t s
  · by_cases e : key = thV (thg o.kind) o.key
    · exact ⟨_, _, e, kl, by rw [e]; exact hk⟩
    · rw [hp.2 _ e] at hv
      exact h3 key v hv

theorem writes_is (k : Int) (w : World) : Calls Try.prog 74 #[.int .i64 k] w fun e w' => e = .returned (.bool (k == 1 || k == 3)) ∧ w = w' := by
  by_cases h1 : k = 1
  · subst h1
    go_enter Try.func74, Try.ntmps74
    go_wp2_with fail
    go_ret
    exact ⟨rfl, rfl⟩
  · by_cases h3 : k = 3
    · subst h3
      go_enter Try.func74, Try.ntmps74
      go_wp2_with fail
      go_ret
      exact ⟨rfl, rfl⟩
    · have e1 : (k == 1) = false := by simp [h1]
      have e3 : (k == 3) = false := by simp [h3]
      rw [e1, e3]
      clear h1 h3
      go_enter Try.func74, Try.ntmps74
      go_wp2_with fail
      go_ret
      exact ⟨rfl, rfl⟩

set_option maxHeartbeats 8000000 in
set_option maxRecDepth 100000 in
theorem uses_is (v : Value) (l : List MOp) (w : World) (h : OpsIn Any w v l) (hk : ∀ i, OpKey (l.getD i default)) :
    Calls Try.prog 69 #[v] w fun e w' => e = .returned (.map (some w.heap.size)) ∧ Used w' w.heap.size l.length (usAt l l.length) ∧ Below w.heap.size w w' := by
  obtain ⟨ao, c, rfl, ⟨hlen, hcap⟩, hc⟩ := ops_at h
  have HC := hid hc
  have HK := hid hk
  clear h hc hk
  have hlen2 : (l.length : Int) ≤ 2199023255552 := by omega
  have hmm := @run_makeMap Try.prog
  go_enter Try.func69, Try.ntmps69
  go_wp2_with fail
  go_loopg [4, 5, 6, 7, 8, 12] l.length (fun g _ _ _ _ _ i wr => ∃ j : Nat, j ≤ l.length ∧ l.length - j ≤ g ∧ i = .int .i64 j ∧ Aside (Below w.heap.size w wr) ∧ Aside (Used wr w.heap.size j (usAt l j)))
  case atStart => exact ⟨0, Nat.zero_le _, by omega, rfl, below_box w _, Used.made w l⟩
  case round =>
    obtain ⟨j, hj, hg, rfl, BX, KX⟩ := hrel
    by_cases hjl : j < l.length
    · have hjli : (j : Int) < l.length := by omega
      obtain ⟨bz, oz, lv, rfl, hi, k0, k1, k2, k3, k4, k5⟩ := HC.out j hjl
      have d0 := (BX.out.cell (p := ⟨bz, oz + j * 6, none⟩) (World.block_lt_of_cell? _ _ k0)).trans k0
      have d1 := (BX.out.cell (p := ⟨bz, oz + j * 6 + 1, none⟩) (World.block_lt_of_cell? _ _ k1)).trans k1
      have d2 := (BX.out.cell (p := ⟨bz, oz + j * 6 + 2, none⟩) (World.block_lt_of_cell? _ _ k2)).trans k2
      have d3 := (BX.out.cell (p := ⟨bz, oz + j * 6 + 3, none⟩) (World.block_lt_of_cell? _ _ k3)).trans k3
      have d4 := (BX.out.cell (p := ⟨bz, oz + j * 6 + 4, none⟩) (World.block_lt_of_cell? _ _ k4)).trans k4
      have d5 := (BX.out.cell (p := ⟨bz, oz + j * 6 + 5, none⟩) (World.block_lt_of_cell? _ _ k5)).trans k5
      have LS : ∃ a n c, lv = .slice a n c := by obtain ⟨a, c, h, _⟩ := hi; exact ⟨a, _, c, h⟩
      clear k0 k1 k2 k3 k4 k5 hi
      have OK := hid (HK.out j)
      have SO : Hid (usAt l (j + 1) = (usAt l j).on (l.getD j default) j) := rfl
      obtain ⟨K, hK⟩ : ∃ K, usAt l j = K := ⟨_, rfl⟩
      rw [hK] at KX SO
      obtain ⟨O, hO⟩ : ∃ O, l.getD j default = O := ⟨_, rfl⟩
      rw [hO] at d0 d1 d2 d4 d5 OK SO
      clear hK hO
      obtain ⟨la, ln, lc, hlv⟩ := LS
      subst hlv
      obtain ⟨mb, hmb⟩ : ∃ mb, w.heap.size = mb := ⟨_, rfl⟩
      rw [hmb] at BX KX ⊢
      have HMB := hid hmb
      clear hmb
      have B0 : Hid (Below wr.heap.size wr (wr.alloc (.cells #[.int .i64 O.kind, .string O.key, .int .i64 O.value, .slice la ln lc, .bool O.has, .bool O.nl] 31))) := below_box wr _
      have hbx : (wr.alloc (.cells #[.int .i64 O.kind, .string O.key, .int .i64 O.value, .slice la ln lc, .bool O.has, .bool O.nl] 31)).heap[wr.heap.size]? = some (.cells #[.int .i64 O.kind, .string O.key, .int .i64 O.value, .slice la ln lc, .bool O.has, .bool O.nl] 31) := heap_alloc_new wr _
      have HBX := hid hbx
      have c0 := Lib.cell_of_heap hbx 0
      have c1 := Lib.cell_of_heap hbx 1
      have c2 := Lib.cell_of_heap hbx 2
      have c3 := Lib.cell_of_heap hbx 3
      have c4 := Lib.cell_of_heap hbx 4
      have c5 := Lib.cell_of_heap hbx 5
      simp only [List.getElem?_toArray, List.getElem?_cons_zero, List.getElem?_cons_succ] at c0 c1 c2 c3 c4 c5
      clear hbx
      have BW1 := B0
      cases hw : wrt O with
      | true =>
        have hw' : (O.kind == 1 || O.kind == 3) = true := hw
        have WR := fun W => writes_is O.kind W
        rw [hw'] at WR
        go_wp2_with (go_at_call 74; refine (WR _).mono ?_; rintro e w' ⟨rfl, rfl⟩)
        have HOb := HBX
        have BW0 := BW1
        clear WR hw' d0 d1 d2 d3 d4 d5 c0 c1 c2 c3 c4 c5
        cases hU : K (thg O.kind) O.key with
        | none =>
          go_wp2_with fail
          go_at_call 32
          refine (of_is O (.slice la ln lc) _).mono ?_
          rintro e w2 ⟨rfl, b2⟩
          have BW2 : Hid (Below wr.heap.size wr w2) := BW0.out.trans (b2.mono BW0.out.size)
          have HO2 : Hid (w2.heap[wr.heap.size]? = some (.cells #[.int .i64 O.kind, .string O.key, .int .i64 O.value, .slice la ln lc, .bool O.has, .bool O.nl] 31)) := (b2.block _ (blt HOb.out)).trans HOb.out
          clear b2
          have U2 : Hid (Used w2 mb j K) := KX.out.same (BW2.out.block _ KX.out.lt)
          have hrun := U2.out.look O OK.out
          have hlt2 : wr.heap.size < w2.heap.size := blt HO2.out
          rw [hU] at hrun
          simp only [Option.getD_some, Option.getD_none, Option.isSome_some, Option.isSome_none, useV] at hrun
          unfold thV at hrun
          unfold thV
          have BE : Hid (Below w2.heap.size w2 (w2.alloc (.cells #[.int .i64 (-1), .int .i64 (j : Int)] 69))) := below_box w2 _
          have HOE : Hid ((w2.alloc (.cells #[.int .i64 (-1), .int .i64 (j : Int)] 69)).heap[wr.heap.size]? = some (.cells #[.int .i64 O.kind, .string O.key, .int .i64 O.value, .slice la ln lc, .bool O.has, .bool O.nl] 31)) := (BE.out.block _ hlt2).trans HO2.out
          have HUE : Hid ((w2.alloc (.cells #[.int .i64 (-1), .int .i64 (j : Int)] 69)).heap[w2.heap.size]? = some (.cells #[.int .i64 (-1), .int .i64 (j : Int)] 69)) := heap_alloc_new w2 _
          have mlt : mb < wr.heap.size := KX.out.lt
          have qu0 : (w2.alloc (.cells #[.int .i64 (-1), .int .i64 (j : Int)] 69)).cell? ⟨w2.heap.size, 0, none⟩ = some (.int .i64 (-1)) := by simp
          have qu1 : (w2.alloc (.cells #[.int .i64 (-1), .int .i64 (j : Int)] 69)).cell? ⟨w2.heap.size, 1, none⟩ = some (.int .i64 (j : Int)) := by simp
          have qo0 : (w2.alloc (.cells #[.int .i64 (-1), .int .i64 (j : Int)] 69)).cell? ⟨wr.heap.size, 0, none⟩ = some (.int .i64 O.kind) := Lib.cell_of_heap HOE.out 0
          have qo1 : (w2.alloc (.cells #[.int .i64 (-1), .int .i64 (j : Int)] 69)).cell? ⟨wr.heap.size, 1, none⟩ = some (.string O.key) := Lib.cell_of_heap HOE.out 1
          have qo2 : (w2.alloc (.cells #[.int .i64 (-1), .int .i64 (j : Int)] 69)).cell? ⟨wr.heap.size, 2, none⟩ = some (.int .i64 O.value) := Lib.cell_of_heap HOE.out 2
          have qo3 : (w2.alloc (.cells #[.int .i64 (-1), .int .i64 (j : Int)] 69)).cell? ⟨wr.heap.size, 3, none⟩ = some (.slice la ln lc) := Lib.cell_of_heap HOE.out 3
          have qo4 : (w2.alloc (.cells #[.int .i64 (-1), .int .i64 (j : Int)] 69)).cell? ⟨wr.heap.size, 4, none⟩ = some (.bool O.has) := Lib.cell_of_heap HOE.out 4
          have qo5 : (w2.alloc (.cells #[.int .i64 (-1), .int .i64 (j : Int)] 69)).cell? ⟨wr.heap.size, 5, none⟩ = some (.bool O.nl) := Lib.cell_of_heap HOE.out 5
          have UV : Hid (useOf K O j = ((-1), (j : Int))) := by show useOf K O j = _; unfold useOf; rw [hU, hw]; simp
          have ON : Hid (K.on O j = K.put (thg O.kind) O.key ((-1), (j : Int))) := by show K.on O j = _; unfold Us.on; rw [if_pos (.inl hw), UV.out]
          have hjm : j < maxLen := by unfold maxLen; omega
          have JM := hid hjm
          clear hw hU
          go_wp2_with fail
          go_region_held3 (fun w' => w'.cell? ⟨wr.heap.size, 0, none⟩ = some (.int .i64 O.kind) ∧ w'.cell? ⟨wr.heap.size, 1, none⟩ = some (.string O.key) ∧ w'.cell? ⟨wr.heap.size, 2, none⟩ = some (.int .i64 O.value) ∧ w'.cell? ⟨wr.heap.size, 3, none⟩ = some (.slice la ln lc) ∧ w'.cell? ⟨wr.heap.size, 4, none⟩ = some (.bool O.has) ∧ w'.cell? ⟨wr.heap.size, 5, none⟩ = some (.bool O.nl) ∧ w'.cell? ⟨w2.heap.size, 0, none⟩ = some (.int .i64 (-1)) ∧ w'.cell? ⟨w2.heap.size, 1, none⟩ = some (.int .i64 (j : Int))) (go_keep) (first
            | (go_at_call 32; refine (of_is O (.slice la ln lc) _).mono ?_; rintro e w5 ⟨rfl, b5⟩; have C5 : Hid (Below (w2.alloc (.cells #[.int .i64 (-1), .int .i64 (j : Int)] 69)).heap.size (w2.alloc (.cells #[.int .i64 (-1), .int .i64 (j : Int)] 69)) w5) := Below.trans (by repeat (first | exact Below.refl _ _ | apply Below.drew)) b5; have B5 : Hid (Below w2.heap.size w2 w5) := BE.out.trans (C5.out.mono BE.out.size); have U5 : Hid (Used w5 mb j K) := U2.out.same (B5.out.block _ U2.out.lt); obtain ⟨w7, r7, u7, g7⟩ := U5.out.put O OK.out JM.out ((-1), (j : Int)); have R7 : (Instr.mapUpdate 120 (.map (some mb)) (thV (thg O.kind) O.key) (.agg #[.int .i64 (-1), .int .i64 (j : Int)])).run Try.prog w5 = .ok () w7 := r7; have U7 := hid u7; have G7 := hid g7; have H5 : Hid (w5.heap[wr.heap.size]? = some (.cells #[.int .i64 O.kind, .string O.key, .int .i64 O.value, .slice la ln lc, .bool O.has, .bool O.nl] 31)) := (C5.out.block _ (blt HOE.out)).trans HOE.out; have ro0 : w5.cell? ⟨wr.heap.size, 0, none⟩ = some (.int .i64 O.kind) := Lib.cell_of_heap H5.out 0; have ro1 : w5.cell? ⟨wr.heap.size, 1, none⟩ = some (.string O.key) := Lib.cell_of_heap H5.out 1; have ro2 : w5.cell? ⟨wr.heap.size, 2, none⟩ = some (.int .i64 O.value) := Lib.cell_of_heap H5.out 2; have ro3 : w5.cell? ⟨wr.heap.size, 3, none⟩ = some (.slice la ln lc) := Lib.cell_of_heap H5.out 3; have ro4 : w5.cell? ⟨wr.heap.size, 4, none⟩ = some (.bool O.has) := Lib.cell_of_heap H5.out 4; have ro5 : w5.cell? ⟨wr.heap.size, 5, none⟩ = some (.bool O.nl) := Lib.cell_of_heap H5.out 5; have ru0 : w5.cell? ⟨w2.heap.size, 0, none⟩ = some (.int .i64 (-1)) := (C5.out.cell (p := ⟨w2.heap.size, 0, none⟩) (World.block_lt_of_cell? _ _ qu0)).trans qu0; have ru1 : w5.cell? ⟨w2.heap.size, 1, none⟩ = some (.int .i64 (j : Int)) := (C5.out.cell (p := ⟨w2.heap.size, 1, none⟩) (World.block_lt_of_cell? _ _ qu1)).trans qu1; have J5 : Hid (w5.heap[w2.heap.size]? = some (.cells #[.int .i64 (-1), .int .i64 (j : Int)] 69)) := (C5.out.block _ (blt HUE.out)).trans HUE.out; have H7 : Hid (w7.heap[wr.heap.size]? = some (.cells #[.int .i64 O.kind, .string O.key, .int .i64 O.value, .slice la ln lc, .bool O.has, .bool O.nl] 31)) := (G7.out.block _ (blt H5.out) (fun e => by injection e; omega)).trans H5.out; have J7 : Hid (w7.heap[w2.heap.size]? = some (.cells #[.int .i64 (-1), .int .i64 (j : Int)] 69)) := (G7.out.block _ (blt J5.out) (fun e => by injection e; omega)).trans J5.out; have so0 : w7.cell? ⟨wr.heap.size, 0, none⟩ = some (.int .i64 O.kind) := Lib.cell_of_heap H7.out 0; have so1 : w7.cell? ⟨wr.heap.size, 1, none⟩ = some (.string O.key) := Lib.cell_of_heap H7.out 1; have so2 : w7.cell? ⟨wr.heap.size, 2, none⟩ = some (.int .i64 O.value) := Lib.cell_of_heap H7.out 2; have so3 : w7.cell? ⟨wr.heap.size, 3, none⟩ = some (.slice la ln lc) := Lib.cell_of_heap H7.out 3; have so4 : w7.cell? ⟨wr.heap.size, 4, none⟩ = some (.bool O.has) := Lib.cell_of_heap H7.out 4; have so5 : w7.cell? ⟨wr.heap.size, 5, none⟩ = some (.bool O.nl) := Lib.cell_of_heap H7.out 5; have su0 : w7.cell? ⟨w2.heap.size, 0, none⟩ = some (.int .i64 (-1)) := Lib.cell_of_heap J7.out 0; have su1 : w7.cell? ⟨w2.heap.size, 1, none⟩ = some (.int .i64 (j : Int)) := Lib.cell_of_heap J7.out 1; clear b5 r7 u7 g7))
          all_goals (try go_wp2_with fail)
          have B7 : Hid (Below mb w w7) := ((BX.out.trans (BW2.out.mono (Nat.le_of_lt mlt))).trans (B5.out.mono (by omega))).trans (below_grown G7.out U5.out.lt)
          rw [← HMB.out]
          go_roundg (l.length - (j + 1))
          · exact ⟨j + 1, by omega, by omega, by go_num, (by show Below _ _ _; rw [HMB.out]; exact B7.out), (by show Used _ _ _ _; rw [HMB.out, SO.out, ON.out]; exact U7.out)⟩
          · omega
        | some u =>
          obtain ⟨a, b⟩ := u
          go_wp2_with fail
          go_at_call 32
          refine (of_is O (.slice la ln lc) _).mono ?_
          rintro e w2 ⟨rfl, b2⟩
          have BW2 : Hid (Below wr.heap.size wr w2) := BW0.out.trans (b2.mono BW0.out.size)
          have HO2 : Hid (w2.heap[wr.heap.size]? = some (.cells #[.int .i64 O.kind, .string O.key, .int .i64 O.value, .slice la ln lc, .bool O.has, .bool O.nl] 31)) := (b2.block _ (blt HOb.out)).trans HOb.out
          clear b2
          have U2 : Hid (Used w2 mb j K) := KX.out.same (BW2.out.block _ KX.out.lt)
          have hrun := U2.out.look O OK.out
          have hlt2 : wr.heap.size < w2.heap.size := blt HO2.out
          rw [hU] at hrun
          simp only [Option.getD_some, Option.getD_none, Option.isSome_some, Option.isSome_none, useV] at hrun
          unfold thV at hrun
          unfold thV
          have BE : Hid (Below w2.heap.size w2 (w2.alloc (.cells #[.int .i64 a, .int .i64 (j : Int)] 69))) := below_box w2 _
          have HOE : Hid ((w2.alloc (.cells #[.int .i64 a, .int .i64 (j : Int)] 69)).heap[wr.heap.size]? = some (.cells #[.int .i64 O.kind, .string O.key, .int .i64 O.value, .slice la ln lc, .bool O.has, .bool O.nl] 31)) := (BE.out.block _ hlt2).trans HO2.out
          have HUE : Hid ((w2.alloc (.cells #[.int .i64 a, .int .i64 (j : Int)] 69)).heap[w2.heap.size]? = some (.cells #[.int .i64 a, .int .i64 (j : Int)] 69)) := heap_alloc_new w2 _
          have mlt : mb < wr.heap.size := KX.out.lt
          have qu0 : (w2.alloc (.cells #[.int .i64 a, .int .i64 (j : Int)] 69)).cell? ⟨w2.heap.size, 0, none⟩ = some (.int .i64 a) := by simp
          have qu1 : (w2.alloc (.cells #[.int .i64 a, .int .i64 (j : Int)] 69)).cell? ⟨w2.heap.size, 1, none⟩ = some (.int .i64 (j : Int)) := by simp
          have qo0 : (w2.alloc (.cells #[.int .i64 a, .int .i64 (j : Int)] 69)).cell? ⟨wr.heap.size, 0, none⟩ = some (.int .i64 O.kind) := Lib.cell_of_heap HOE.out 0
          have qo1 : (w2.alloc (.cells #[.int .i64 a, .int .i64 (j : Int)] 69)).cell? ⟨wr.heap.size, 1, none⟩ = some (.string O.key) := Lib.cell_of_heap HOE.out 1
          have qo2 : (w2.alloc (.cells #[.int .i64 a, .int .i64 (j : Int)] 69)).cell? ⟨wr.heap.size, 2, none⟩ = some (.int .i64 O.value) := Lib.cell_of_heap HOE.out 2
          have qo3 : (w2.alloc (.cells #[.int .i64 a, .int .i64 (j : Int)] 69)).cell? ⟨wr.heap.size, 3, none⟩ = some (.slice la ln lc) := Lib.cell_of_heap HOE.out 3
          have qo4 : (w2.alloc (.cells #[.int .i64 a, .int .i64 (j : Int)] 69)).cell? ⟨wr.heap.size, 4, none⟩ = some (.bool O.has) := Lib.cell_of_heap HOE.out 4
          have qo5 : (w2.alloc (.cells #[.int .i64 a, .int .i64 (j : Int)] 69)).cell? ⟨wr.heap.size, 5, none⟩ = some (.bool O.nl) := Lib.cell_of_heap HOE.out 5
          have UV : Hid (useOf K O j = (a, (j : Int))) := by show useOf K O j = _; unfold useOf; rw [hU, hw]; simp
          have ON : Hid (K.on O j = K.put (thg O.kind) O.key (a, (j : Int))) := by show K.on O j = _; unfold Us.on; rw [if_pos (.inl hw), UV.out]
          have hjm : j < maxLen := by unfold maxLen; omega
          have JM := hid hjm
          clear hw hU
          go_wp2_with fail
          go_region_held3 (fun w' => w'.cell? ⟨wr.heap.size, 0, none⟩ = some (.int .i64 O.kind) ∧ w'.cell? ⟨wr.heap.size, 1, none⟩ = some (.string O.key) ∧ w'.cell? ⟨wr.heap.size, 2, none⟩ = some (.int .i64 O.value) ∧ w'.cell? ⟨wr.heap.size, 3, none⟩ = some (.slice la ln lc) ∧ w'.cell? ⟨wr.heap.size, 4, none⟩ = some (.bool O.has) ∧ w'.cell? ⟨wr.heap.size, 5, none⟩ = some (.bool O.nl) ∧ w'.cell? ⟨w2.heap.size, 0, none⟩ = some (.int .i64 a) ∧ w'.cell? ⟨w2.heap.size, 1, none⟩ = some (.int .i64 (j : Int))) (go_keep) (first
            | (go_at_call 32; refine (of_is O (.slice la ln lc) _).mono ?_; rintro e w5 ⟨rfl, b5⟩; have C5 : Hid (Below (w2.alloc (.cells #[.int .i64 a, .int .i64 (j : Int)] 69)).heap.size (w2.alloc (.cells #[.int .i64 a, .int .i64 (j : Int)] 69)) w5) := Below.trans (by repeat (first | exact Below.refl _ _ | apply Below.drew)) b5; have B5 : Hid (Below w2.heap.size w2 w5) := BE.out.trans (C5.out.mono BE.out.size); have U5 : Hid (Used w5 mb j K) := U2.out.same (B5.out.block _ U2.out.lt); obtain ⟨w7, r7, u7, g7⟩ := U5.out.put O OK.out JM.out (a, (j : Int)); have R7 : (Instr.mapUpdate 120 (.map (some mb)) (thV (thg O.kind) O.key) (.agg #[.int .i64 a, .int .i64 (j : Int)])).run Try.prog w5 = .ok () w7 := r7; have U7 := hid u7; have G7 := hid g7; have H5 : Hid (w5.heap[wr.heap.size]? = some (.cells #[.int .i64 O.kind, .string O.key, .int .i64 O.value, .slice la ln lc, .bool O.has, .bool O.nl] 31)) := (C5.out.block _ (blt HOE.out)).trans HOE.out; have ro0 : w5.cell? ⟨wr.heap.size, 0, none⟩ = some (.int .i64 O.kind) := Lib.cell_of_heap H5.out 0; have ro1 : w5.cell? ⟨wr.heap.size, 1, none⟩ = some (.string O.key) := Lib.cell_of_heap H5.out 1; have ro2 : w5.cell? ⟨wr.heap.size, 2, none⟩ = some (.int .i64 O.value) := Lib.cell_of_heap H5.out 2; have ro3 : w5.cell? ⟨wr.heap.size, 3, none⟩ = some (.slice la ln lc) := Lib.cell_of_heap H5.out 3; have ro4 : w5.cell? ⟨wr.heap.size, 4, none⟩ = some (.bool O.has) := Lib.cell_of_heap H5.out 4; have ro5 : w5.cell? ⟨wr.heap.size, 5, none⟩ = some (.bool O.nl) := Lib.cell_of_heap H5.out 5; have ru0 : w5.cell? ⟨w2.heap.size, 0, none⟩ = some (.int .i64 a) := (C5.out.cell (p := ⟨w2.heap.size, 0, none⟩) (World.block_lt_of_cell? _ _ qu0)).trans qu0; have ru1 : w5.cell? ⟨w2.heap.size, 1, none⟩ = some (.int .i64 (j : Int)) := (C5.out.cell (p := ⟨w2.heap.size, 1, none⟩) (World.block_lt_of_cell? _ _ qu1)).trans qu1; have J5 : Hid (w5.heap[w2.heap.size]? = some (.cells #[.int .i64 a, .int .i64 (j : Int)] 69)) := (C5.out.block _ (blt HUE.out)).trans HUE.out; have H7 : Hid (w7.heap[wr.heap.size]? = some (.cells #[.int .i64 O.kind, .string O.key, .int .i64 O.value, .slice la ln lc, .bool O.has, .bool O.nl] 31)) := (G7.out.block _ (blt H5.out) (fun e => by injection e; omega)).trans H5.out; have J7 : Hid (w7.heap[w2.heap.size]? = some (.cells #[.int .i64 a, .int .i64 (j : Int)] 69)) := (G7.out.block _ (blt J5.out) (fun e => by injection e; omega)).trans J5.out; have so0 : w7.cell? ⟨wr.heap.size, 0, none⟩ = some (.int .i64 O.kind) := Lib.cell_of_heap H7.out 0; have so1 : w7.cell? ⟨wr.heap.size, 1, none⟩ = some (.string O.key) := Lib.cell_of_heap H7.out 1; have so2 : w7.cell? ⟨wr.heap.size, 2, none⟩ = some (.int .i64 O.value) := Lib.cell_of_heap H7.out 2; have so3 : w7.cell? ⟨wr.heap.size, 3, none⟩ = some (.slice la ln lc) := Lib.cell_of_heap H7.out 3; have so4 : w7.cell? ⟨wr.heap.size, 4, none⟩ = some (.bool O.has) := Lib.cell_of_heap H7.out 4; have so5 : w7.cell? ⟨wr.heap.size, 5, none⟩ = some (.bool O.nl) := Lib.cell_of_heap H7.out 5; have su0 : w7.cell? ⟨w2.heap.size, 0, none⟩ = some (.int .i64 a) := Lib.cell_of_heap J7.out 0; have su1 : w7.cell? ⟨w2.heap.size, 1, none⟩ = some (.int .i64 (j : Int)) := Lib.cell_of_heap J7.out 1; clear b5 r7 u7 g7))
          all_goals (try go_wp2_with fail)
          have B7 : Hid (Below mb w w7) := ((BX.out.trans (BW2.out.mono (Nat.le_of_lt mlt))).trans (B5.out.mono (by omega))).trans (below_grown G7.out U5.out.lt)
          rw [← HMB.out]
          go_roundg (l.length - (j + 1))
          · exact ⟨j + 1, by omega, by omega, by go_num, (by show Below _ _ _; rw [HMB.out]; exact B7.out), (by show Used _ _ _ _; rw [HMB.out, SO.out, ON.out]; exact U7.out)⟩
          · omega
      | false =>
        have hw' : (O.kind == 1 || O.kind == 3) = false := hw
        have WR := fun W => writes_is O.kind W
        rw [hw'] at WR
        go_wp2_with (go_at_call 74; refine (WR _).mono ?_; rintro e w' ⟨rfl, rfl⟩)
        go_at_call 33
        refine (reads_is O (.slice la ln lc) _).mono ?_
        rintro e w1 ⟨rfl, b1⟩
        have HOb : Hid (w1.heap[wr.heap.size]? = some (.cells #[.int .i64 O.kind, .string O.key, .int .i64 O.value, .slice la ln lc, .bool O.has, .bool O.nl] 31)) := (b1.block _ (blt HBX.out)).trans HBX.out
        have BW0 : Hid (Below wr.heap.size wr w1) := BW1.out.trans (b1.mono BW1.out.size)
        clear WR hw' b1 d0 d1 d2 d3 d4 d5 c0 c1 c2 c3 c4 c5
        have po0 : w1.cell? ⟨wr.heap.size, 0, none⟩ = some (.int .i64 O.kind) := Lib.cell_of_heap HOb.out 0
        have po1 : w1.cell? ⟨wr.heap.size, 1, none⟩ = some (.string O.key) := Lib.cell_of_heap HOb.out 1
        have po2 : w1.cell? ⟨wr.heap.size, 2, none⟩ = some (.int .i64 O.value) := Lib.cell_of_heap HOb.out 2
        have po3 : w1.cell? ⟨wr.heap.size, 3, none⟩ = some (.slice la ln lc) := Lib.cell_of_heap HOb.out 3
        have po4 : w1.cell? ⟨wr.heap.size, 4, none⟩ = some (.bool O.has) := Lib.cell_of_heap HOb.out 4
        have po5 : w1.cell? ⟨wr.heap.size, 5, none⟩ = some (.bool O.nl) := Lib.cell_of_heap HOb.out 5
        cases hr : rds O with
        | false =>
          have ON : Hid (K.on O j = K) := by show K.on O j = K; unfold Us.on; rw [if_neg (by rw [hw, hr]; simp)]
          have mlt : mb < wr.heap.size := KX.out.lt
          clear hw hr
          go_wp2_with fail
          rw [← HMB.out]
          go_roundg (l.length - (j + 1))
          · exact ⟨j + 1, by omega, by omega, by go_num, (by show Below _ _ _; rw [HMB.out]; exact BX.out.trans (BW0.out.mono (Nat.le_of_lt mlt))), (by show Used _ _ _ _; rw [HMB.out, SO.out, ON.out]; exact (KX.out.same (BW0.out.block _ KX.out.lt)).mono (Nat.le_succ _))⟩
          · omega
        | true =>
          cases hU : K (thg O.kind) O.key with
          | none =>
            go_wp2_with fail
            go_at_call 32
            refine (of_is O (.slice la ln lc) _).mono ?_
            rintro e w2 ⟨rfl, b2⟩
            have BW2 : Hid (Below wr.heap.size wr w2) := BW0.out.trans (b2.mono BW0.out.size)
            have HO2 : Hid (w2.heap[wr.heap.size]? = some (.cells #[.int .i64 O.kind, .string O.key, .int .i64 O.value, .slice la ln lc, .bool O.has, .bool O.nl] 31)) := (b2.block _ (blt HOb.out)).trans HOb.out
            clear b2
            have U2 : Hid (Used w2 mb j K) := KX.out.same (BW2.out.block _ KX.out.lt)
            have hrun := U2.out.look O OK.out
            have hlt2 : wr.heap.size < w2.heap.size := blt HO2.out
            rw [hU] at hrun
            simp only [Option.getD_some, Option.getD_none, Option.isSome_some, Option.isSome_none, useV] at hrun
            unfold thV at hrun
            unfold thV
            have BE : Hid (Below w2.heap.size w2 (w2.alloc (.cells #[.int .i64 (j : Int), .int .i64 (-1)] 69))) := below_box w2 _
            have HOE : Hid ((w2.alloc (.cells #[.int .i64 (j : Int), .int .i64 (-1)] 69)).heap[wr.heap.size]? = some (.cells #[.int .i64 O.kind, .string O.key, .int .i64 O.value, .slice la ln lc, .bool O.has, .bool O.nl] 31)) := (BE.out.block _ hlt2).trans HO2.out
            have HUE : Hid ((w2.alloc (.cells #[.int .i64 (j : Int), .int .i64 (-1)] 69)).heap[w2.heap.size]? = some (.cells #[.int .i64 (j : Int), .int .i64 (-1)] 69)) := heap_alloc_new w2 _
            have mlt : mb < wr.heap.size := KX.out.lt
            have qu0 : (w2.alloc (.cells #[.int .i64 (j : Int), .int .i64 (-1)] 69)).cell? ⟨w2.heap.size, 0, none⟩ = some (.int .i64 (j : Int)) := by simp
            have qu1 : (w2.alloc (.cells #[.int .i64 (j : Int), .int .i64 (-1)] 69)).cell? ⟨w2.heap.size, 1, none⟩ = some (.int .i64 (-1)) := by simp
            have qo0 : (w2.alloc (.cells #[.int .i64 (j : Int), .int .i64 (-1)] 69)).cell? ⟨wr.heap.size, 0, none⟩ = some (.int .i64 O.kind) := Lib.cell_of_heap HOE.out 0
            have qo1 : (w2.alloc (.cells #[.int .i64 (j : Int), .int .i64 (-1)] 69)).cell? ⟨wr.heap.size, 1, none⟩ = some (.string O.key) := Lib.cell_of_heap HOE.out 1
            have qo2 : (w2.alloc (.cells #[.int .i64 (j : Int), .int .i64 (-1)] 69)).cell? ⟨wr.heap.size, 2, none⟩ = some (.int .i64 O.value) := Lib.cell_of_heap HOE.out 2
            have qo3 : (w2.alloc (.cells #[.int .i64 (j : Int), .int .i64 (-1)] 69)).cell? ⟨wr.heap.size, 3, none⟩ = some (.slice la ln lc) := Lib.cell_of_heap HOE.out 3
            have qo4 : (w2.alloc (.cells #[.int .i64 (j : Int), .int .i64 (-1)] 69)).cell? ⟨wr.heap.size, 4, none⟩ = some (.bool O.has) := Lib.cell_of_heap HOE.out 4
            have qo5 : (w2.alloc (.cells #[.int .i64 (j : Int), .int .i64 (-1)] 69)).cell? ⟨wr.heap.size, 5, none⟩ = some (.bool O.nl) := Lib.cell_of_heap HOE.out 5
            have UV : Hid (useOf K O j = ((j : Int), (-1))) := by show useOf K O j = _; unfold useOf; rw [hU, hw]; simp
            have ON : Hid (K.on O j = K.put (thg O.kind) O.key ((j : Int), (-1))) := by show K.on O j = _; unfold Us.on; rw [if_pos (.inr hr), UV.out]
            have hjm : j < maxLen := by unfold maxLen; omega
            have JM := hid hjm
            clear hw hU hr
            go_wp2_with fail
            go_region_held3 (fun w' => w'.cell? ⟨wr.heap.size, 0, none⟩ = some (.int .i64 O.kind) ∧ w'.cell? ⟨wr.heap.size, 1, none⟩ = some (.string O.key) ∧ w'.cell? ⟨wr.heap.size, 2, none⟩ = some (.int .i64 O.value) ∧ w'.cell? ⟨wr.heap.size, 3, none⟩ = some (.slice la ln lc) ∧ w'.cell? ⟨wr.heap.size, 4, none⟩ = some (.bool O.has) ∧ w'.cell? ⟨wr.heap.size, 5, none⟩ = some (.bool O.nl) ∧ w'.cell? ⟨w2.heap.size, 0, none⟩ = some (.int .i64 (j : Int)) ∧ w'.cell? ⟨w2.heap.size, 1, none⟩ = some (.int .i64 (-1))) (go_keep) (first
              | (go_at_call 32; refine (of_is O (.slice la ln lc) _).mono ?_; rintro e w5 ⟨rfl, b5⟩; have C5 : Hid (Below (w2.alloc (.cells #[.int .i64 (j : Int), .int .i64 (-1)] 69)).heap.size (w2.alloc (.cells #[.int .i64 (j : Int), .int .i64 (-1)] 69)) w5) := Below.trans (by repeat (first | exact Below.refl _ _ | apply Below.drew)) b5; have B5 : Hid (Below w2.heap.size w2 w5) := BE.out.trans (C5.out.mono BE.out.size); have U5 : Hid (Used w5 mb j K) := U2.out.same (B5.out.block _ U2.out.lt); obtain ⟨w7, r7, u7, g7⟩ := U5.out.put O OK.out JM.out ((j : Int), (-1)); have R7 : (Instr.mapUpdate 120 (.map (some mb)) (thV (thg O.kind) O.key) (.agg #[.int .i64 (j : Int), .int .i64 (-1)])).run Try.prog w5 = .ok () w7 := r7; have U7 := hid u7; have G7 := hid g7; have H5 : Hid (w5.heap[wr.heap.size]? = some (.cells #[.int .i64 O.kind, .string O.key, .int .i64 O.value, .slice la ln lc, .bool O.has, .bool O.nl] 31)) := (C5.out.block _ (blt HOE.out)).trans HOE.out; have ro0 : w5.cell? ⟨wr.heap.size, 0, none⟩ = some (.int .i64 O.kind) := Lib.cell_of_heap H5.out 0; have ro1 : w5.cell? ⟨wr.heap.size, 1, none⟩ = some (.string O.key) := Lib.cell_of_heap H5.out 1; have ro2 : w5.cell? ⟨wr.heap.size, 2, none⟩ = some (.int .i64 O.value) := Lib.cell_of_heap H5.out 2; have ro3 : w5.cell? ⟨wr.heap.size, 3, none⟩ = some (.slice la ln lc) := Lib.cell_of_heap H5.out 3; have ro4 : w5.cell? ⟨wr.heap.size, 4, none⟩ = some (.bool O.has) := Lib.cell_of_heap H5.out 4; have ro5 : w5.cell? ⟨wr.heap.size, 5, none⟩ = some (.bool O.nl) := Lib.cell_of_heap H5.out 5; have ru0 : w5.cell? ⟨w2.heap.size, 0, none⟩ = some (.int .i64 (j : Int)) := (C5.out.cell (p := ⟨w2.heap.size, 0, none⟩) (World.block_lt_of_cell? _ _ qu0)).trans qu0; have ru1 : w5.cell? ⟨w2.heap.size, 1, none⟩ = some (.int .i64 (-1)) := (C5.out.cell (p := ⟨w2.heap.size, 1, none⟩) (World.block_lt_of_cell? _ _ qu1)).trans qu1; have J5 : Hid (w5.heap[w2.heap.size]? = some (.cells #[.int .i64 (j : Int), .int .i64 (-1)] 69)) := (C5.out.block _ (blt HUE.out)).trans HUE.out; have H7 : Hid (w7.heap[wr.heap.size]? = some (.cells #[.int .i64 O.kind, .string O.key, .int .i64 O.value, .slice la ln lc, .bool O.has, .bool O.nl] 31)) := (G7.out.block _ (blt H5.out) (fun e => by injection e; omega)).trans H5.out; have J7 : Hid (w7.heap[w2.heap.size]? = some (.cells #[.int .i64 (j : Int), .int .i64 (-1)] 69)) := (G7.out.block _ (blt J5.out) (fun e => by injection e; omega)).trans J5.out; have so0 : w7.cell? ⟨wr.heap.size, 0, none⟩ = some (.int .i64 O.kind) := Lib.cell_of_heap H7.out 0; have so1 : w7.cell? ⟨wr.heap.size, 1, none⟩ = some (.string O.key) := Lib.cell_of_heap H7.out 1; have so2 : w7.cell? ⟨wr.heap.size, 2, none⟩ = some (.int .i64 O.value) := Lib.cell_of_heap H7.out 2; have so3 : w7.cell? ⟨wr.heap.size, 3, none⟩ = some (.slice la ln lc) := Lib.cell_of_heap H7.out 3; have so4 : w7.cell? ⟨wr.heap.size, 4, none⟩ = some (.bool O.has) := Lib.cell_of_heap H7.out 4; have so5 : w7.cell? ⟨wr.heap.size, 5, none⟩ = some (.bool O.nl) := Lib.cell_of_heap H7.out 5; have su0 : w7.cell? ⟨w2.heap.size, 0, none⟩ = some (.int .i64 (j : Int)) := Lib.cell_of_heap J7.out 0; have su1 : w7.cell? ⟨w2.heap.size, 1, none⟩ = some (.int .i64 (-1)) := Lib.cell_of_heap J7.out 1; clear b5 r7 u7 g7))
            all_goals (try go_wp2_with fail)
            have B7 : Hid (Below mb w w7) := ((BX.out.trans (BW2.out.mono (Nat.le_of_lt mlt))).trans (B5.out.mono (by omega))).trans (below_grown G7.out U5.out.lt)
            rw [← HMB.out]
            go_roundg (l.length - (j + 1))
            · exact ⟨j + 1, by omega, by omega, by go_num, (by show Below _ _ _; rw [HMB.out]; exact B7.out), (by show Used _ _ _ _; rw [HMB.out, SO.out, ON.out]; exact U7.out)⟩
            · omega
          | some u =>
            obtain ⟨a, b⟩ := u
            go_wp2_with fail
            go_at_call 32
            refine (of_is O (.slice la ln lc) _).mono ?_
            rintro e w2 ⟨rfl, b2⟩
            have BW2 : Hid (Below wr.heap.size wr w2) := BW0.out.trans (b2.mono BW0.out.size)
            have HO2 : Hid (w2.heap[wr.heap.size]? = some (.cells #[.int .i64 O.kind, .string O.key, .int .i64 O.value, .slice la ln lc, .bool O.has, .bool O.nl] 31)) := (b2.block _ (blt HOb.out)).trans HOb.out
            clear b2
            have U2 : Hid (Used w2 mb j K) := KX.out.same (BW2.out.block _ KX.out.lt)
            have hrun := U2.out.look O OK.out
            have hlt2 : wr.heap.size < w2.heap.size := blt HO2.out
            rw [hU] at hrun
            simp only [Option.getD_some, Option.getD_none, Option.isSome_some, Option.isSome_none, useV] at hrun
            unfold thV at hrun
            unfold thV
            have BE : Hid (Below w2.heap.size w2 (w2.alloc (.cells #[.int .i64 a, .int .i64 b] 69))) := below_box w2 _
            have HOE : Hid ((w2.alloc (.cells #[.int .i64 a, .int .i64 b] 69)).heap[wr.heap.size]? = some (.cells #[.int .i64 O.kind, .string O.key, .int .i64 O.value, .slice la ln lc, .bool O.has, .bool O.nl] 31)) := (BE.out.block _ hlt2).trans HO2.out
            have HUE : Hid ((w2.alloc (.cells #[.int .i64 a, .int .i64 b] 69)).heap[w2.heap.size]? = some (.cells #[.int .i64 a, .int .i64 b] 69)) := heap_alloc_new w2 _
            have mlt : mb < wr.heap.size := KX.out.lt
            have qu0 : (w2.alloc (.cells #[.int .i64 a, .int .i64 b] 69)).cell? ⟨w2.heap.size, 0, none⟩ = some (.int .i64 a) := by simp
            have qu1 : (w2.alloc (.cells #[.int .i64 a, .int .i64 b] 69)).cell? ⟨w2.heap.size, 1, none⟩ = some (.int .i64 b) := by simp
            have qo0 : (w2.alloc (.cells #[.int .i64 a, .int .i64 b] 69)).cell? ⟨wr.heap.size, 0, none⟩ = some (.int .i64 O.kind) := Lib.cell_of_heap HOE.out 0
            have qo1 : (w2.alloc (.cells #[.int .i64 a, .int .i64 b] 69)).cell? ⟨wr.heap.size, 1, none⟩ = some (.string O.key) := Lib.cell_of_heap HOE.out 1
            have qo2 : (w2.alloc (.cells #[.int .i64 a, .int .i64 b] 69)).cell? ⟨wr.heap.size, 2, none⟩ = some (.int .i64 O.value) := Lib.cell_of_heap HOE.out 2
            have qo3 : (w2.alloc (.cells #[.int .i64 a, .int .i64 b] 69)).cell? ⟨wr.heap.size, 3, none⟩ = some (.slice la ln lc) := Lib.cell_of_heap HOE.out 3
            have qo4 : (w2.alloc (.cells #[.int .i64 a, .int .i64 b] 69)).cell? ⟨wr.heap.size, 4, none⟩ = some (.bool O.has) := Lib.cell_of_heap HOE.out 4
            have qo5 : (w2.alloc (.cells #[.int .i64 a, .int .i64 b] 69)).cell? ⟨wr.heap.size, 5, none⟩ = some (.bool O.nl) := Lib.cell_of_heap HOE.out 5
            have UV : Hid (useOf K O j = (a, b)) := by show useOf K O j = _; unfold useOf; rw [hU, hw]; simp
            have ON : Hid (K.on O j = K.put (thg O.kind) O.key (a, b)) := by show K.on O j = _; unfold Us.on; rw [if_pos (.inr hr), UV.out]
            have hjm : j < maxLen := by unfold maxLen; omega
            have JM := hid hjm
            clear hw hU hr
            go_wp2_with fail
            go_region_held3 (fun w' => w'.cell? ⟨wr.heap.size, 0, none⟩ = some (.int .i64 O.kind) ∧ w'.cell? ⟨wr.heap.size, 1, none⟩ = some (.string O.key) ∧ w'.cell? ⟨wr.heap.size, 2, none⟩ = some (.int .i64 O.value) ∧ w'.cell? ⟨wr.heap.size, 3, none⟩ = some (.slice la ln lc) ∧ w'.cell? ⟨wr.heap.size, 4, none⟩ = some (.bool O.has) ∧ w'.cell? ⟨wr.heap.size, 5, none⟩ = some (.bool O.nl) ∧ w'.cell? ⟨w2.heap.size, 0, none⟩ = some (.int .i64 a) ∧ w'.cell? ⟨w2.heap.size, 1, none⟩ = some (.int .i64 b)) (go_keep) (first
              | (go_at_call 32; refine (of_is O (.slice la ln lc) _).mono ?_; rintro e w5 ⟨rfl, b5⟩; have C5 : Hid (Below (w2.alloc (.cells #[.int .i64 a, .int .i64 b] 69)).heap.size (w2.alloc (.cells #[.int .i64 a, .int .i64 b] 69)) w5) := Below.trans (by repeat (first | exact Below.refl _ _ | apply Below.drew)) b5; have B5 : Hid (Below w2.heap.size w2 w5) := BE.out.trans (C5.out.mono BE.out.size); have U5 : Hid (Used w5 mb j K) := U2.out.same (B5.out.block _ U2.out.lt); obtain ⟨w7, r7, u7, g7⟩ := U5.out.put O OK.out JM.out (a, b); have R7 : (Instr.mapUpdate 120 (.map (some mb)) (thV (thg O.kind) O.key) (.agg #[.int .i64 a, .int .i64 b])).run Try.prog w5 = .ok () w7 := r7; have U7 := hid u7; have G7 := hid g7; have H5 : Hid (w5.heap[wr.heap.size]? = some (.cells #[.int .i64 O.kind, .string O.key, .int .i64 O.value, .slice la ln lc, .bool O.has, .bool O.nl] 31)) := (C5.out.block _ (blt HOE.out)).trans HOE.out; have ro0 : w5.cell? ⟨wr.heap.size, 0, none⟩ = some (.int .i64 O.kind) := Lib.cell_of_heap H5.out 0; have ro1 : w5.cell? ⟨wr.heap.size, 1, none⟩ = some (.string O.key) := Lib.cell_of_heap H5.out 1; have ro2 : w5.cell? ⟨wr.heap.size, 2, none⟩ = some (.int .i64 O.value) := Lib.cell_of_heap H5.out 2; have ro3 : w5.cell? ⟨wr.heap.size, 3, none⟩ = some (.slice la ln lc) := Lib.cell_of_heap H5.out 3; have ro4 : w5.cell? ⟨wr.heap.size, 4, none⟩ = some (.bool O.has) := Lib.cell_of_heap H5.out 4; have ro5 : w5.cell? ⟨wr.heap.size, 5, none⟩ = some (.bool O.nl) := Lib.cell_of_heap H5.out 5; have ru0 : w5.cell? ⟨w2.heap.size, 0, none⟩ = some (.int .i64 a) := (C5.out.cell (p := ⟨w2.heap.size, 0, none⟩) (World.block_lt_of_cell? _ _ qu0)).trans qu0; have ru1 : w5.cell? ⟨w2.heap.size, 1, none⟩ = some (.int .i64 b) := (C5.out.cell (p := ⟨w2.heap.size, 1, none⟩) (World.block_lt_of_cell? _ _ qu1)).trans qu1; have J5 : Hid (w5.heap[w2.heap.size]? = some (.cells #[.int .i64 a, .int .i64 b] 69)) := (C5.out.block _ (blt HUE.out)).trans HUE.out; have H7 : Hid (w7.heap[wr.heap.size]? = some (.cells #[.int .i64 O.kind, .string O.key, .int .i64 O.value, .slice la ln lc, .bool O.has, .bool O.nl] 31)) := (G7.out.block _ (blt H5.out) (fun e => by injection e; omega)).trans H5.out; have J7 : Hid (w7.heap[w2.heap.size]? = some (.cells #[.int .i64 a, .int .i64 b] 69)) := (G7.out.block _ (blt J5.out) (fun e => by injection e; omega)).trans J5.out; have so0 : w7.cell? ⟨wr.heap.size, 0, none⟩ = some (.int .i64 O.kind) := Lib.cell_of_heap H7.out 0; have so1 : w7.cell? ⟨wr.heap.size, 1, none⟩ = some (.string O.key) := Lib.cell_of_heap H7.out 1; have so2 : w7.cell? ⟨wr.heap.size, 2, none⟩ = some (.int .i64 O.value) := Lib.cell_of_heap H7.out 2; have so3 : w7.cell? ⟨wr.heap.size, 3, none⟩ = some (.slice la ln lc) := Lib.cell_of_heap H7.out 3; have so4 : w7.cell? ⟨wr.heap.size, 4, none⟩ = some (.bool O.has) := Lib.cell_of_heap H7.out 4; have so5 : w7.cell? ⟨wr.heap.size, 5, none⟩ = some (.bool O.nl) := Lib.cell_of_heap H7.out 5; have su0 : w7.cell? ⟨w2.heap.size, 0, none⟩ = some (.int .i64 a) := Lib.cell_of_heap J7.out 0; have su1 : w7.cell? ⟨w2.heap.size, 1, none⟩ = some (.int .i64 b) := Lib.cell_of_heap J7.out 1; clear b5 r7 u7 g7))
            all_goals (try go_wp2_with fail)
            have B7 : Hid (Below mb w w7) := ((BX.out.trans (BW2.out.mono (Nat.le_of_lt mlt))).trans (B5.out.mono (by omega))).trans (below_grown G7.out U5.out.lt)
            rw [← HMB.out]
            go_roundg (l.length - (j + 1))
            · exact ⟨j + 1, by omega, by omega, by go_num, (by show Below _ _ _; rw [HMB.out]; exact B7.out), (by show Used _ _ _ _; rw [HMB.out, SO.out, ON.out]; exact U7.out)⟩
            · omega
    · have hjli : ¬ (j : Int) < l.length := by omega
      have ej : j = l.length := by omega
      subst ej
      go_wp2_with fail
      go_ret
      exact ⟨rfl, KX.out, BX.out⟩
end Go.Proofs.Ytadlnkaphkbfdaa
