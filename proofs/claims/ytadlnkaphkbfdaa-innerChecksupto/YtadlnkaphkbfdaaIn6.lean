/-
  Check: the first read that is wrong.
-/
import Derived.Test.YtadlnkaphkbfdaaIn5
namespace Go.Proofs.Ytadlnkaphkbfdaa
set_option linter.unusedVariables false
set_option linter.unusedSimpArgs false
open Go.RowKit Go.Lib Go.Maps

theorem ops_at {w : World} {v : Value} {l : List MOp} (h : OpsIn Any w v l) : ∃ ao c, v = .slice ao l.length c ∧ (l.length * 64 ≤ 140737488355328 ∧ l.length ≤ c) ∧ ∀ j, j < l.length → ∃ b off lv, ao = some ⟨b, off, none⟩ ∧ IntsIn Any w lv (l.getD j default).list ∧
    w.cell? ⟨b, off + j * 6, none⟩ = some (.int .i64 (l.getD j default).kind) ∧ w.cell? ⟨b, off + j * 6 + 1, none⟩ = some (.string (l.getD j default).key) ∧ w.cell? ⟨b, off + j * 6 + 2, none⟩ = some (.int .i64 (l.getD j default).value) ∧
    w.cell? ⟨b, off + j * 6 + 3, none⟩ = some lv ∧ w.cell? ⟨b, off + j * 6 + 4, none⟩ = some (.bool (l.getD j default).has) ∧ w.cell? ⟨b, off + j * 6 + 5, none⟩ = some (.bool (l.getD j default).nl) := by
  obtain ⟨ao, c, hv, hl, hc⟩ := h
  refine ⟨ao, c, hv, hl, fun j hj => ?_⟩
  obtain ⟨b, off, ha, _, hcc⟩ := hc (by omega)
  obtain ⟨cs, _, ⟨lv, rfl, hi⟩, k⟩ := hcc j hj
  exact ⟨b, off, lv, ha, hi, k 0 _ rfl, k 1 _ rfl, k 2 _ rfl, k 3 _ rfl, k 4 _ rfl, k 5 _ rfl⟩
theorem wit_len (k : Kn) (o : MOp) (M : Nat) (hk : k.list.length ≤ M) (ho : o.list.length ≤ M) : (k.wit o).list.length ≤ M + 1 := by
  unfold Kn.wit
  split
  · simp; omega
  · split
    · simp
    · split
      · split
        · simp only; omega
        · simp
      · omega
theorem st_len (l : List MOp) (M : Nat) (h : ∀ i, (l.getD i default).list.length ≤ M) (i : Nat) (t : Int) (s : ByteArray) : (stAt l i t s).list.length ≤ M + i := by
  induction i generalizing t s with
  | zero => simp [stAt, Kn.zero]
  | succ i ih =>
    show ((stAt l i).on (l.getD i default) t s).list.length ≤ _
    by_cases e : thg (l.getD i default).kind = t ∧ (l.getD i default).key = s
    · rw [St.on_same _ _ _ _ e.1 e.2]
      exact wit_len _ _ (M + i) (ih t s) (Nat.le_trans (h i) (Nat.le_add_right _ _))
    · rw [St.on_other _ _ _ _ e]
      have := ih t s
      omega
/-- m[key] = val, in a region that draws its order. -/
theorem step_mapV {P : Program} {w : World} {ops : Array Oper} {o : Oper} {a : Act} {K : Act → World → Prop} {Q : Exit → Act → World → Prop} {E : Prop} (hgd : o.guard = none) (m x v : Operand) (t : TypeId) (hop : o.op = Op.mapUpdate t m x v)
    (k e : TypeId) (KK : Keyed P k) (ht : P.underlying t = some (.map k e)) (b n : Nat) (f : Value → Option Value) (hm : a.eval m = .map (some b)) (h : MapV w P k b n f) (hn : n < maxLen) (key val : Value) (hx : a.eval x = key) (hv : a.eval v = val) (hkey : ∃ kl, keyOf P k key = some kl)
    (hK : ∀ w' g, IsPut f key val g → MapV w' P k b (n + 1) g → w.grownBy w' (some b) → K (a.put o.dst undef) w') : if Region.wanted o (yielded ops a.tmps) = true then Oper.wp P o a w K Q else E := by
  obtain ⟨kl, hkey⟩ := hkey
  have hw : Region.wanted o (yielded ops a.tmps) = true := by simp [Region.wanted, hgd]
  rw [if_pos hw]
  obtain ⟨w', g, hrun, hp, r1, r2⟩ := h.put KK ht hn val hkey
  unfold Oper.wp
  simp [execOp, hop, hm, hx, hv, hrun, Result.andThen]
  exact hK w' g hp r1 r2

theorem own_tag {B : Nat} {w : World} {z n g : Nat} {v : Value} {xs : List Value} {cs : Array Value} {t : TypeId} (h : w.ownsRow B 3 z v n xs) (hg : v.ownBlock = some g) (hc : w.heap[g]? = some (.cells cs t)) (ht : t ≠ 3) : False := by
  obtain ⟨_, _, cs', hc'⟩ := own_block h hg
  rw [hc] at hc'
  cases hc'
  exact ht rfl
theorem map_tag {w : World} {mb n g : Nat} {f : Value → Option Value} {cs : Array Value} {t : TypeId} (h : MapV w Try.prog 63 mb n f) (hg : g = mb) (hc : w.heap[g]? = some (.cells cs t)) : False := by
  obtain ⟨es, ck, he⟩ := h.block
  rw [hg, he] at hc
  cases hc
theorem below_grown {mb : Nat} {w w' : World} (g : w.grownBy w' (some mb)) (h : mb < w.heap.size) : Below mb w w' := ⟨g.os, g.tape, g.output, g.size, fun b hb => g.block b (by omega) (fun e => by injection e; omega)⟩
def OpKey (o : MOp) : Prop := ∃ kl, keyOf Try.prog 63 (thV (thg o.kind) o.key) = some kl
theorem thg_wf (k : Int) : (Lit.int .i64 (thg k)).wf = true := by
  unfold thg
  split
  · rfl
  · split <;> rfl
theorem opKey (o : MOp) (h : o.key.size ≤ maxLen) : OpKey o := key_th _ _ (thg_wf _) h

set_option maxHeartbeats 8000000 in
set_option maxRecDepth 100000 in
theorem check_is (v : Value) (l : List MOp) (w : World) (h : OpsIn Any w v l) (hk : ∀ i, OpKey (l.getD i default)) (hL : ∀ i t s, (stAt l i t s).list.length * 8 ≤ 140737488355328) (hA : ∀ i t s, (l.getD i default).kind = 1 → (stAt l i t s).list.length ≤ 1099511627776) (hlen : l.length ≤ 2199023255552) :
    Calls Try.prog 10 #[v] w fun e w' => ∃ r, e = .returned (.int .i64 r) ∧ IsFirst (bad l) l.length r ∧ Below w.heap.size w w' := by
  obtain ⟨ao, c, rfl, ⟨-, hcap⟩, hc⟩ := ops_at h
  have HC := hid hc
  have HK := hid hk
  have SL := hid hL
  have HA := hid hA
  clear h hc hk hL hA
  have hlen2 : (l.length : Int) ≤ 2199023255552 := by omega
  have hmm := @run_makeMap Try.prog
  go_enter Try.func10, Try.ntmps10
  go_wp2_with fail
  go_loopg [4, 5, 6, 10] l.length (fun g _ _ _ i wr => ∃ j : Nat, j ≤ l.length ∧ l.length - j ≤ g ∧ i = .int .i64 j ∧ Aside (Below w.heap.size w wr) ∧ Aside (Knows w.heap.size wr w.heap.size j (stAt l j)) ∧ Aside (∀ i, i < j → bad l i = false))
  case atStart => exact ⟨0, Nat.zero_le _, by omega, rfl, below_box w _, Knows.made _ w l, fun i hi => by omega⟩
  case round =>
    obtain ⟨j, hj, hg, rfl, BX, KX, NX⟩ := hrel
    by_cases hjl : j < l.length
    · have hjli : (j : Int) < l.length := by omega
      obtain ⟨bz, oz, lv, rfl, hi, k0, k1, k2, k3, k4, k5⟩ := HC.out j hjl
      have LI : Hid (IntsIn Any wr lv (l.getD j default).list) := hi.below BX.out
      have d0 := (BX.out.cell (p := ⟨bz, oz + j * 6, none⟩) (World.block_lt_of_cell? _ _ k0)).trans k0
      have d1 := (BX.out.cell (p := ⟨bz, oz + j * 6 + 1, none⟩) (World.block_lt_of_cell? _ _ k1)).trans k1
      have d2 := (BX.out.cell (p := ⟨bz, oz + j * 6 + 2, none⟩) (World.block_lt_of_cell? _ _ k2)).trans k2
      have d3 := (BX.out.cell (p := ⟨bz, oz + j * 6 + 3, none⟩) (World.block_lt_of_cell? _ _ k3)).trans k3
      have d4 := (BX.out.cell (p := ⟨bz, oz + j * 6 + 4, none⟩) (World.block_lt_of_cell? _ _ k4)).trans k4
      have d5 := (BX.out.cell (p := ⟨bz, oz + j * 6 + 5, none⟩) (World.block_lt_of_cell? _ _ k5)).trans k5
      clear k0 k1 k2 k3 k4 k5 hi
      have OK := hid (HK.out j)
      have SJ := hid (SL.out j)
      have AJ := hid (HA.out j)
      have BD : Hid (bad l j = (rds (l.getD j default) && !((stAt l j) (thg (l.getD j default).kind) (l.getD j default).key).fits (l.getD j default))) := rfl
      have SO : Hid (stAt l (j + 1) = (stAt l j).on (l.getD j default)) := rfl
      obtain ⟨K, hK⟩ : ∃ K, stAt l j = K := ⟨_, rfl⟩
      rw [hK] at KX SJ AJ BD SO
      obtain ⟨O, hO⟩ : ∃ O, l.getD j default = O := ⟨_, rfl⟩
      rw [hO] at LI d0 d1 d2 d4 d5 OK AJ BD SO
      clear hK hO
      obtain ⟨la, ln, lc, hlv⟩ : ∃ a n c, lv = .slice a n c := by obtain ⟨a, c, h, _⟩ := LI.out; exact ⟨a, _, c, h⟩
      subst hlv
      obtain ⟨mb, hmb⟩ : ∃ mb, w.heap.size = mb := ⟨_, rfl⟩
      rw [hmb] at BX KX ⊢
      have HMB := hid hmb
      clear hmb
      have B0 : Hid (Below wr.heap.size wr (wr.alloc (.cells #[.int .i64 O.kind, .string O.key, .int .i64 O.value, .slice la ln lc, .bool O.has, .bool O.nl] 31))) := below_box wr _
      go_wp2_with fail
      go_at_call 32
      refine (of_is O (.slice la ln lc) _).mono ?_
      rintro e w1 ⟨rfl, b1⟩
      have BW : Hid (Below wr.heap.size wr w1) := B0.out.trans (b1.mono B0.out.size)
      have hbx : w1.heap[wr.heap.size]? = some (.cells #[.int .i64 O.kind, .string O.key, .int .i64 O.value, .slice la ln lc, .bool O.has, .bool O.nl] 31) := (b1.block _ (by simp)).trans (heap_alloc_new wr _)
      have HBX := hid hbx
      clear b1 d0 d1 d2 d3 d4 d5
      obtain ⟨sl, hrun, hnext⟩ := (KX.out.later BW.out).next O (by have h1 := BX.out.size; have h2 := BW.out.size; have h3 := HMB.out; omega) OK.out
      have HNX := hid hnext
      have SZ0 : mb ≤ wr.heap.size := by have h1 := BX.out.size; have h3 := HMB.out; omega
      have BA : Hid (Below mb w w1) := BX.out.trans (BW.out.mono SZ0)
      have SZ : Hid (mb ≤ w1.heap.size) := by have h2 := BW.out.size; exact Nat.le_trans SZ0 h2
      clear SZ0
      have LW : Hid (IntsIn Any w1 (.slice la ln lc) O.list) := LI.out.below BW.out
      have KL : Hid ((K (thg O.kind) O.key).list.length * 8 ≤ 140737488355328) := SJ.out _ _
      have KA : Hid (O.kind = 1 → (K (thg O.kind) O.key).list.length ≤ 1099511627776) := AJ.out _ _
      obtain ⟨k, hk⟩ : ∃ k, K (thg O.kind) O.key = k := ⟨_, rfl⟩
      rw [hk] at hrun HNX BD KL KA
      obtain ⟨sa, sn, sc, hsl⟩ : ∃ a n c, sl = .slice a n c := by obtain ⟨a, c, h⟩ := own_slice (HNX.out w1 (Below.refl _ _)).1; exact ⟨a, _, c, h⟩
      subst hsl
      clear hk hnext
      have c0 := Lib.cell_of_heap hbx 0
      have c1 := Lib.cell_of_heap hbx 1
      have c2 := Lib.cell_of_heap hbx 2
      have c3 := Lib.cell_of_heap hbx 3
      have c4 := Lib.cell_of_heap hbx 4
      have c5 := Lib.cell_of_heap hbx 5
      simp at c0 c1 c2 c3 c4 c5
      have a0 := Lib.cell?_alloc_some (.cells #[.bool k.whole, .slice sa sn sc, .bool k.none, .int .i64 k.value] 61) c0
      have a1 := Lib.cell?_alloc_some (.cells #[.bool k.whole, .slice sa sn sc, .bool k.none, .int .i64 k.value] 61) c1
      have a2 := Lib.cell?_alloc_some (.cells #[.bool k.whole, .slice sa sn sc, .bool k.none, .int .i64 k.value] 61) c2
      have a3 := Lib.cell?_alloc_some (.cells #[.bool k.whole, .slice sa sn sc, .bool k.none, .int .i64 k.value] 61) c3
      have a4 := Lib.cell?_alloc_some (.cells #[.bool k.whole, .slice sa sn sc, .bool k.none, .int .i64 k.value] 61) c4
      have a5 := Lib.cell?_alloc_some (.cells #[.bool k.whole, .slice sa sn sc, .bool k.none, .int .i64 k.value] 61) c5
      unfold thV knV at hrun
      unfold thV
      clear hbx
      go_wp2_with fail
      go_at_call 33
      refine (reads_is O (.slice la ln lc) _).mono ?_
      rintro e w3 ⟨rfl, b3⟩
      have HOb : Hid (w3.heap[wr.heap.size]? = some (.cells #[.int .i64 O.kind, .string O.key, .int .i64 O.value, .slice la ln lc, .bool O.has, .bool O.nl] 31)) := (b3.block _ (by have := blt HBX.out; simp only [alloc_size]; omega)).trans ((below_box w1 _).block _ (blt HBX.out) |>.trans HBX.out)
      have HKb : Hid (w3.heap[w1.heap.size]? = some (.cells #[.bool k.whole, .slice sa sn sc, .bool k.none, .int .i64 k.value] 61)) := (b3.block _ (by simp only [alloc_size]; omega)).trans (heap_alloc_new w1 _)
      have BWW : Hid (Below w1.heap.size w1 w3) := (below_box w1 _).trans (b3.mono (by simp only [alloc_size]; omega))
      clear b3 c0 c1 c2 c3 c4 c5 a0 a1 a2 a3 a4 a5 hrun
      cases hr : rds O with
      | false =>
        have NB : Hid (bad l j = false) := by rw [show bad l j = _ from BD.out, hr]; rfl
        clear hr
        have qo0 : w3.cell? ⟨wr.heap.size, 0, none⟩ = some (.int .i64 O.kind) := Lib.cell_of_heap HOb.out 0
        have qo1 : w3.cell? ⟨wr.heap.size, 1, none⟩ = some (.string O.key) := Lib.cell_of_heap HOb.out 1
        have qo2 : w3.cell? ⟨wr.heap.size, 2, none⟩ = some (.int .i64 O.value) := Lib.cell_of_heap HOb.out 2
        have qo3 : w3.cell? ⟨wr.heap.size, 3, none⟩ = some (.slice la ln lc) := Lib.cell_of_heap HOb.out 3
        have qo4 : w3.cell? ⟨wr.heap.size, 4, none⟩ = some (.bool O.has) := Lib.cell_of_heap HOb.out 4
        have qo5 : w3.cell? ⟨wr.heap.size, 5, none⟩ = some (.bool O.nl) := Lib.cell_of_heap HOb.out 5
        have qk0 : w3.cell? ⟨w1.heap.size, 0, none⟩ = some (.bool k.whole) := Lib.cell_of_heap HKb.out 0
        have qk1 : w3.cell? ⟨w1.heap.size, 1, none⟩ = some (.slice sa sn sc) := Lib.cell_of_heap HKb.out 1
        have qk2 : w3.cell? ⟨w1.heap.size, 2, none⟩ = some (.bool k.none) := Lib.cell_of_heap HKb.out 2
        have qk3 : w3.cell? ⟨w1.heap.size, 3, none⟩ = some (.int .i64 k.value) := Lib.cell_of_heap HKb.out 3
        have hjm : j < maxLen := by unfold maxLen; omega
        go_wp2_with fail
        go_region_held3 (fun w' => w'.cell? ⟨wr.heap.size, 0, none⟩ = some (.int .i64 O.kind) ∧ w'.cell? ⟨wr.heap.size, 1, none⟩ = some (.string O.key) ∧ w'.cell? ⟨wr.heap.size, 2, none⟩ = some (.int .i64 O.value) ∧ w'.cell? ⟨wr.heap.size, 3, none⟩ = some (.slice la ln lc) ∧ w'.cell? ⟨wr.heap.size, 4, none⟩ = some (.bool O.has) ∧ w'.cell? ⟨wr.heap.size, 5, none⟩ = some (.bool O.nl) ∧ w'.cell? ⟨w1.heap.size, 0, none⟩ = some (.bool k.whole) ∧ w'.cell? ⟨w1.heap.size, 1, none⟩ = some (.slice sa sn sc) ∧ w'.cell? ⟨w1.heap.size, 2, none⟩ = some (.bool k.none) ∧ w'.cell? ⟨w1.heap.size, 3, none⟩ = some (.int .i64 k.value)) (go_keep) (first
          | (go_at_call 32; refine (of_is O (.slice la ln lc) _).mono ?_; rintro e w5 ⟨rfl, b5⟩; have C5 : Hid (Below w3.heap.size w3 w5) := Below.trans (by repeat (first | exact Below.refl _ _ | apply Below.drew)) b5; have B5 : Hid (Below w1.heap.size w1 w5) := BWW.out.trans (C5.out.mono BWW.out.size); have H5 : Hid (w5.heap[wr.heap.size]? = some (.cells #[.int .i64 O.kind, .string O.key, .int .i64 O.value, .slice la ln lc, .bool O.has, .bool O.nl] 31)) := (C5.out.block _ (blt HOb.out)).trans HOb.out; have G5 : Hid (w5.heap[w1.heap.size]? = some (.cells #[.bool k.whole, .slice sa sn sc, .bool k.none, .int .i64 k.value] 61)) := (C5.out.block _ (blt HKb.out)).trans HKb.out; have ro0 : w5.cell? ⟨wr.heap.size, 0, none⟩ = some (.int .i64 O.kind) := Lib.cell_of_heap H5.out 0; have ro1 : w5.cell? ⟨wr.heap.size, 1, none⟩ = some (.string O.key) := Lib.cell_of_heap H5.out 1; have ro2 : w5.cell? ⟨wr.heap.size, 2, none⟩ = some (.int .i64 O.value) := Lib.cell_of_heap H5.out 2; have ro3 : w5.cell? ⟨wr.heap.size, 3, none⟩ = some (.slice la ln lc) := Lib.cell_of_heap H5.out 3; have ro4 : w5.cell? ⟨wr.heap.size, 4, none⟩ = some (.bool O.has) := Lib.cell_of_heap H5.out 4; have ro5 : w5.cell? ⟨wr.heap.size, 5, none⟩ = some (.bool O.nl) := Lib.cell_of_heap H5.out 5; have rk0 : w5.cell? ⟨w1.heap.size, 0, none⟩ = some (.bool k.whole) := Lib.cell_of_heap G5.out 0; have rk1 : w5.cell? ⟨w1.heap.size, 1, none⟩ = some (.slice sa sn sc) := Lib.cell_of_heap G5.out 1; have rk2 : w5.cell? ⟨w1.heap.size, 2, none⟩ = some (.bool k.none) := Lib.cell_of_heap G5.out 2; have rk3 : w5.cell? ⟨w1.heap.size, 3, none⟩ = some (.int .i64 k.value) := Lib.cell_of_heap G5.out 3; clear b5)
          | (go_at_call 35; refine (with_is mb k (.slice sa sn sc) O (.slice la ln lc) w5 (HNX.out w5 B5.out).1 (LW.out.below B5.out) (Nat.le_trans SZ.out B5.out.size) KA.out).mono ?_; intro e w6 hw6; obtain ⟨val, f6, he6, ⟨va, vn, vc, hval⟩, m6, b6, nx6⟩ := (HNX.out w5 B5.out).2 e w6 hw6; subst hval; subst he6; have M6 := hid m6; have B6 := hid b6; have N6 := hid nx6; have G6 := hid hw6.choose_spec.2.2.2; have H6 : Hid (w6.heap[wr.heap.size]? = some (.cells #[.int .i64 O.kind, .string O.key, .int .i64 O.value, .slice la ln lc, .bool O.has, .bool O.nl] 31)) := (G6.out.block _ (blt H5.out) (fun e => own_tag (HNX.out w5 B5.out).1 e H5.out (by decide))).trans H5.out; have J6 : Hid (w6.heap[w1.heap.size]? = some (.cells #[.bool k.whole, .slice sa sn sc, .bool k.none, .int .i64 k.value] 61)) := (G6.out.block _ (blt G5.out) (fun e => own_tag (HNX.out w5 B5.out).1 e G5.out (by decide))).trans G5.out; have so0 : w6.cell? ⟨wr.heap.size, 0, none⟩ = some (.int .i64 O.kind) := Lib.cell_of_heap H6.out 0; have so1 : w6.cell? ⟨wr.heap.size, 1, none⟩ = some (.string O.key) := Lib.cell_of_heap H6.out 1; have so2 : w6.cell? ⟨wr.heap.size, 2, none⟩ = some (.int .i64 O.value) := Lib.cell_of_heap H6.out 2; have so3 : w6.cell? ⟨wr.heap.size, 3, none⟩ = some (.slice la ln lc) := Lib.cell_of_heap H6.out 3; have so4 : w6.cell? ⟨wr.heap.size, 4, none⟩ = some (.bool O.has) := Lib.cell_of_heap H6.out 4; have so5 : w6.cell? ⟨wr.heap.size, 5, none⟩ = some (.bool O.nl) := Lib.cell_of_heap H6.out 5; have sk0 : w6.cell? ⟨w1.heap.size, 0, none⟩ = some (.bool k.whole) := Lib.cell_of_heap J6.out 0; have sk1 : w6.cell? ⟨w1.heap.size, 1, none⟩ = some (.slice sa sn sc) := Lib.cell_of_heap J6.out 1; have sk2 : w6.cell? ⟨w1.heap.size, 2, none⟩ = some (.bool k.none) := Lib.cell_of_heap J6.out 2; have sk3 : w6.cell? ⟨w1.heap.size, 3, none⟩ = some (.int .i64 k.value) := Lib.cell_of_heap J6.out 3; clear m6 b6 nx6 hw6; obtain ⟨kl, hkl⟩ := OK.out; obtain ⟨w7, gg7, r7, p7, m7, g7⟩ := M6.out.put keys63 Try.underlying59 hjm (knV (k.wit O) (.slice va vn vc)) hkl; have KN : Hid (Knows mb w7 mb (j + 1) (K.on O)) := N6.out w7 gg7 p7 m7 g7; have B7 : Hid (Below mb w w7) := BA.out.trans ((B5.out.mono SZ.out).trans (B6.out.trans (below_grown g7 M6.out.lt))); have H7 : Hid (w7.heap[wr.heap.size]? = some (.cells #[.int .i64 O.kind, .string O.key, .int .i64 O.value, .slice la ln lc, .bool O.has, .bool O.nl] 31)) := (g7.block _ (blt H6.out) (fun e => map_tag M6.out (by injection e) H6.out)).trans H6.out; have J7 : Hid (w7.heap[w1.heap.size]? = some (.cells #[.bool k.whole, .slice sa sn sc, .bool k.none, .int .i64 k.value] 61)) := (g7.block _ (blt J6.out) (fun e => map_tag M6.out (by injection e) J6.out)).trans J6.out; have to0 : w7.cell? ⟨wr.heap.size, 0, none⟩ = some (.int .i64 O.kind) := Lib.cell_of_heap H7.out 0; have to1 : w7.cell? ⟨wr.heap.size, 1, none⟩ = some (.string O.key) := Lib.cell_of_heap H7.out 1; have to2 : w7.cell? ⟨wr.heap.size, 2, none⟩ = some (.int .i64 O.value) := Lib.cell_of_heap H7.out 2; have to3 : w7.cell? ⟨wr.heap.size, 3, none⟩ = some (.slice la ln lc) := Lib.cell_of_heap H7.out 3; have to4 : w7.cell? ⟨wr.heap.size, 4, none⟩ = some (.bool O.has) := Lib.cell_of_heap H7.out 4; have to5 : w7.cell? ⟨wr.heap.size, 5, none⟩ = some (.bool O.nl) := Lib.cell_of_heap H7.out 5; have tk0 : w7.cell? ⟨w1.heap.size, 0, none⟩ = some (.bool k.whole) := Lib.cell_of_heap J7.out 0; have tk1 : w7.cell? ⟨w1.heap.size, 1, none⟩ = some (.slice sa sn sc) := Lib.cell_of_heap J7.out 1; have tk2 : w7.cell? ⟨w1.heap.size, 2, none⟩ = some (.bool k.none) := Lib.cell_of_heap J7.out 2; have tk3 : w7.cell? ⟨w1.heap.size, 3, none⟩ = some (.int .i64 k.value) := Lib.cell_of_heap J7.out 3; clear p7 m7 g7 hkl))
        all_goals (try go_wp2_with fail)
        rw [← HMB.out]
        go_roundg (l.length - (j + 1))
        · exact ⟨j + 1, by omega, by omega, by go_num, (by show Below _ _ _; rw [HMB.out]; exact B7.out), (by show Knows _ _ _ _ _; rw [HMB.out, SO.out]; exact KN.out), (by show ∀ i, i < j + 1 → bad l i = false; intro i hi; by_cases e : i = j; (· rw [e]; exact NB.out); (· exact NX.out i (by omega)))⟩
        · omega
      | true =>
        rw [hr] at BD
        clear hr
        have po0 : w3.cell? ⟨wr.heap.size, 0, none⟩ = some (.int .i64 O.kind) := Lib.cell_of_heap HOb.out 0
        have po1 : w3.cell? ⟨wr.heap.size, 1, none⟩ = some (.string O.key) := Lib.cell_of_heap HOb.out 1
        have po2 : w3.cell? ⟨wr.heap.size, 2, none⟩ = some (.int .i64 O.value) := Lib.cell_of_heap HOb.out 2
        have po3 : w3.cell? ⟨wr.heap.size, 3, none⟩ = some (.slice la ln lc) := Lib.cell_of_heap HOb.out 3
        have po4 : w3.cell? ⟨wr.heap.size, 4, none⟩ = some (.bool O.has) := Lib.cell_of_heap HOb.out 4
        have po5 : w3.cell? ⟨wr.heap.size, 5, none⟩ = some (.bool O.nl) := Lib.cell_of_heap HOb.out 5
        have pk0 : w3.cell? ⟨w1.heap.size, 0, none⟩ = some (.bool k.whole) := Lib.cell_of_heap HKb.out 0
        have pk1 : w3.cell? ⟨w1.heap.size, 1, none⟩ = some (.slice sa sn sc) := Lib.cell_of_heap HKb.out 1
        have pk2 : w3.cell? ⟨w1.heap.size, 2, none⟩ = some (.bool k.none) := Lib.cell_of_heap HKb.out 2
        have pk3 : w3.cell? ⟨w1.heap.size, 3, none⟩ = some (.int .i64 k.value) := Lib.cell_of_heap HKb.out 3
        go_wp2_with fail
        go_at_call 34
        refine (fits_is k (.slice sa sn sc) O (.slice la ln lc) w3 (own_ints (HNX.out w3 BWW.out).1 KL.out) (LW.out.below BWW.out)).mono ?_
        rintro e w4 ⟨rfl, b4⟩
        have HO4 : Hid (w4.heap[wr.heap.size]? = some (.cells #[.int .i64 O.kind, .string O.key, .int .i64 O.value, .slice la ln lc, .bool O.has, .bool O.nl] 31)) := (b4.block _ (blt HOb.out)).trans HOb.out
        have HK4 : Hid (w4.heap[w1.heap.size]? = some (.cells #[.bool k.whole, .slice sa sn sc, .bool k.none, .int .i64 k.value] 61)) := (b4.block _ (blt HKb.out)).trans HKb.out
        have BW4 : Hid (Below w1.heap.size w1 w4) := BWW.out.trans (b4.mono BWW.out.size)
        clear b4 po0 po1 po2 po3 po4 po5 pk0 pk1 pk2 pk3 HOb HKb BWW
        cases hf : k.fits O with
        | false =>
          have NB : Hid (bad l j = true) := by rw [show bad l j = _ from BD.out, hf]; rfl
          clear hf
          go_wp2_with fail
          go_ret
          exact ⟨_, rfl, .inr ⟨j, hjl, rfl, NB.out, NX.out⟩, by rw [HMB.out]; exact BA.out.trans (BW4.out.mono SZ.out)⟩
        | true =>
          have NB : Hid (bad l j = false) := by rw [show bad l j = _ from BD.out, hf]; rfl
          clear hf
          have HOb := HO4
          have HKb := HK4
          have BWW := BW4
          clear HO4 HK4 BW4
          have qo0 : w4.cell? ⟨wr.heap.size, 0, none⟩ = some (.int .i64 O.kind) := Lib.cell_of_heap HOb.out 0
          have qo1 : w4.cell? ⟨wr.heap.size, 1, none⟩ = some (.string O.key) := Lib.cell_of_heap HOb.out 1
          have qo2 : w4.cell? ⟨wr.heap.size, 2, none⟩ = some (.int .i64 O.value) := Lib.cell_of_heap HOb.out 2
          have qo3 : w4.cell? ⟨wr.heap.size, 3, none⟩ = some (.slice la ln lc) := Lib.cell_of_heap HOb.out 3
          have qo4 : w4.cell? ⟨wr.heap.size, 4, none⟩ = some (.bool O.has) := Lib.cell_of_heap HOb.out 4
          have qo5 : w4.cell? ⟨wr.heap.size, 5, none⟩ = some (.bool O.nl) := Lib.cell_of_heap HOb.out 5
          have qk0 : w4.cell? ⟨w1.heap.size, 0, none⟩ = some (.bool k.whole) := Lib.cell_of_heap HKb.out 0
          have qk1 : w4.cell? ⟨w1.heap.size, 1, none⟩ = some (.slice sa sn sc) := Lib.cell_of_heap HKb.out 1
          have qk2 : w4.cell? ⟨w1.heap.size, 2, none⟩ = some (.bool k.none) := Lib.cell_of_heap HKb.out 2
          have qk3 : w4.cell? ⟨w1.heap.size, 3, none⟩ = some (.int .i64 k.value) := Lib.cell_of_heap HKb.out 3
          have hjm : j < maxLen := by unfold maxLen; omega
          go_wp2_with fail
          go_region_held3 (fun w' => w'.cell? ⟨wr.heap.size, 0, none⟩ = some (.int .i64 O.kind) ∧ w'.cell? ⟨wr.heap.size, 1, none⟩ = some (.string O.key) ∧ w'.cell? ⟨wr.heap.size, 2, none⟩ = some (.int .i64 O.value) ∧ w'.cell? ⟨wr.heap.size, 3, none⟩ = some (.slice la ln lc) ∧ w'.cell? ⟨wr.heap.size, 4, none⟩ = some (.bool O.has) ∧ w'.cell? ⟨wr.heap.size, 5, none⟩ = some (.bool O.nl) ∧ w'.cell? ⟨w1.heap.size, 0, none⟩ = some (.bool k.whole) ∧ w'.cell? ⟨w1.heap.size, 1, none⟩ = some (.slice sa sn sc) ∧ w'.cell? ⟨w1.heap.size, 2, none⟩ = some (.bool k.none) ∧ w'.cell? ⟨w1.heap.size, 3, none⟩ = some (.int .i64 k.value)) (go_keep) (first
            | (go_at_call 32; refine (of_is O (.slice la ln lc) _).mono ?_; rintro e w5 ⟨rfl, b5⟩; have C5 : Hid (Below w4.heap.size w4 w5) := Below.trans (by repeat (first | exact Below.refl _ _ | apply Below.drew)) b5; have B5 : Hid (Below w1.heap.size w1 w5) := BWW.out.trans (C5.out.mono BWW.out.size); have H5 : Hid (w5.heap[wr.heap.size]? = some (.cells #[.int .i64 O.kind, .string O.key, .int .i64 O.value, .slice la ln lc, .bool O.has, .bool O.nl] 31)) := (C5.out.block _ (blt HOb.out)).trans HOb.out; have G5 : Hid (w5.heap[w1.heap.size]? = some (.cells #[.bool k.whole, .slice sa sn sc, .bool k.none, .int .i64 k.value] 61)) := (C5.out.block _ (blt HKb.out)).trans HKb.out; have ro0 : w5.cell? ⟨wr.heap.size, 0, none⟩ = some (.int .i64 O.kind) := Lib.cell_of_heap H5.out 0; have ro1 : w5.cell? ⟨wr.heap.size, 1, none⟩ = some (.string O.key) := Lib.cell_of_heap H5.out 1; have ro2 : w5.cell? ⟨wr.heap.size, 2, none⟩ = some (.int .i64 O.value) := Lib.cell_of_heap H5.out 2; have ro3 : w5.cell? ⟨wr.heap.size, 3, none⟩ = some (.slice la ln lc) := Lib.cell_of_heap H5.out 3; have ro4 : w5.cell? ⟨wr.heap.size, 4, none⟩ = some (.bool O.has) := Lib.cell_of_heap H5.out 4; have ro5 : w5.cell? ⟨wr.heap.size, 5, none⟩ = some (.bool O.nl) := Lib.cell_of_heap H5.out 5; have rk0 : w5.cell? ⟨w1.heap.size, 0, none⟩ = some (.bool k.whole) := Lib.cell_of_heap G5.out 0; have rk1 : w5.cell? ⟨w1.heap.size, 1, none⟩ = some (.slice sa sn sc) := Lib.cell_of_heap G5.out 1; have rk2 : w5.cell? ⟨w1.heap.size, 2, none⟩ = some (.bool k.none) := Lib.cell_of_heap G5.out 2; have rk3 : w5.cell? ⟨w1.heap.size, 3, none⟩ = some (.int .i64 k.value) := Lib.cell_of_heap G5.out 3; clear b5)
            | (go_at_call 35; refine (with_is mb k (.slice sa sn sc) O (.slice la ln lc) w5 (HNX.out w5 B5.out).1 (LW.out.below B5.out) (Nat.le_trans SZ.out B5.out.size) KA.out).mono ?_; intro e w6 hw6; obtain ⟨val, f6, he6, ⟨va, vn, vc, hval⟩, m6, b6, nx6⟩ := (HNX.out w5 B5.out).2 e w6 hw6; subst hval; subst he6; have M6 := hid m6; have B6 := hid b6; have N6 := hid nx6; have G6 := hid hw6.choose_spec.2.2.2; have H6 : Hid (w6.heap[wr.heap.size]? = some (.cells #[.int .i64 O.kind, .string O.key, .int .i64 O.value, .slice la ln lc, .bool O.has, .bool O.nl] 31)) := (G6.out.block _ (blt H5.out) (fun e => own_tag (HNX.out w5 B5.out).1 e H5.out (by decide))).trans H5.out; have J6 : Hid (w6.heap[w1.heap.size]? = some (.cells #[.bool k.whole, .slice sa sn sc, .bool k.none, .int .i64 k.value] 61)) := (G6.out.block _ (blt G5.out) (fun e => own_tag (HNX.out w5 B5.out).1 e G5.out (by decide))).trans G5.out; have so0 : w6.cell? ⟨wr.heap.size, 0, none⟩ = some (.int .i64 O.kind) := Lib.cell_of_heap H6.out 0; have so1 : w6.cell? ⟨wr.heap.size, 1, none⟩ = some (.string O.key) := Lib.cell_of_heap H6.out 1; have so2 : w6.cell? ⟨wr.heap.size, 2, none⟩ = some (.int .i64 O.value) := Lib.cell_of_heap H6.out 2; have so3 : w6.cell? ⟨wr.heap.size, 3, none⟩ = some (.slice la ln lc) := Lib.cell_of_heap H6.out 3; have so4 : w6.cell? ⟨wr.heap.size, 4, none⟩ = some (.bool O.has) := Lib.cell_of_heap H6.out 4; have so5 : w6.cell? ⟨wr.heap.size, 5, none⟩ = some (.bool O.nl) := Lib.cell_of_heap H6.out 5; have sk0 : w6.cell? ⟨w1.heap.size, 0, none⟩ = some (.bool k.whole) := Lib.cell_of_heap J6.out 0; have sk1 : w6.cell? ⟨w1.heap.size, 1, none⟩ = some (.slice sa sn sc) := Lib.cell_of_heap J6.out 1; have sk2 : w6.cell? ⟨w1.heap.size, 2, none⟩ = some (.bool k.none) := Lib.cell_of_heap J6.out 2; have sk3 : w6.cell? ⟨w1.heap.size, 3, none⟩ = some (.int .i64 k.value) := Lib.cell_of_heap J6.out 3; clear m6 b6 nx6 hw6; obtain ⟨kl, hkl⟩ := OK.out; obtain ⟨w7, gg7, r7, p7, m7, g7⟩ := M6.out.put keys63 Try.underlying59 hjm (knV (k.wit O) (.slice va vn vc)) hkl; have KN : Hid (Knows mb w7 mb (j + 1) (K.on O)) := N6.out w7 gg7 p7 m7 g7; have B7 : Hid (Below mb w w7) := BA.out.trans ((B5.out.mono SZ.out).trans (B6.out.trans (below_grown g7 M6.out.lt))); have H7 : Hid (w7.heap[wr.heap.size]? = some (.cells #[.int .i64 O.kind, .string O.key, .int .i64 O.value, .slice la ln lc, .bool O.has, .bool O.nl] 31)) := (g7.block _ (blt H6.out) (fun e => map_tag M6.out (by injection e) H6.out)).trans H6.out; have J7 : Hid (w7.heap[w1.heap.size]? = some (.cells #[.bool k.whole, .slice sa sn sc, .bool k.none, .int .i64 k.value] 61)) := (g7.block _ (blt J6.out) (fun e => map_tag M6.out (by injection e) J6.out)).trans J6.out; have to0 : w7.cell? ⟨wr.heap.size, 0, none⟩ = some (.int .i64 O.kind) := Lib.cell_of_heap H7.out 0; have to1 : w7.cell? ⟨wr.heap.size, 1, none⟩ = some (.string O.key) := Lib.cell_of_heap H7.out 1; have to2 : w7.cell? ⟨wr.heap.size, 2, none⟩ = some (.int .i64 O.value) := Lib.cell_of_heap H7.out 2; have to3 : w7.cell? ⟨wr.heap.size, 3, none⟩ = some (.slice la ln lc) := Lib.cell_of_heap H7.out 3; have to4 : w7.cell? ⟨wr.heap.size, 4, none⟩ = some (.bool O.has) := Lib.cell_of_heap H7.out 4; have to5 : w7.cell? ⟨wr.heap.size, 5, none⟩ = some (.bool O.nl) := Lib.cell_of_heap H7.out 5; have tk0 : w7.cell? ⟨w1.heap.size, 0, none⟩ = some (.bool k.whole) := Lib.cell_of_heap J7.out 0; have tk1 : w7.cell? ⟨w1.heap.size, 1, none⟩ = some (.slice sa sn sc) := Lib.cell_of_heap J7.out 1; have tk2 : w7.cell? ⟨w1.heap.size, 2, none⟩ = some (.bool k.none) := Lib.cell_of_heap J7.out 2; have tk3 : w7.cell? ⟨w1.heap.size, 3, none⟩ = some (.int .i64 k.value) := Lib.cell_of_heap J7.out 3; clear p7 m7 g7 hkl))
          all_goals (try go_wp2_with fail)
          rw [← HMB.out]
          go_roundg (l.length - (j + 1))
          · exact ⟨j + 1, by omega, by omega, by go_num, (by show Below _ _ _; rw [HMB.out]; exact B7.out), (by show Knows _ _ _ _ _; rw [HMB.out, SO.out]; exact KN.out), (by show ∀ i, i < j + 1 → bad l i = false; intro i hi; by_cases e : i = j; (· rw [e]; exact NB.out); (· exact NX.out i (by omega)))⟩
          · omega
    · have hjli : ¬ (j : Int) < l.length := by omega
      go_wp2_with fail
      go_ret
      exact ⟨_, rfl, .inl ⟨rfl, fun i hi => NX.out i (by omega)⟩, BX.out⟩
end Go.Proofs.Ytadlnkaphkbfdaa
