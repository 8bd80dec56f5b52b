/-
  ReportPrints: a report as a text, or the error, and whether it may be.
  From a reading of a report as data to the report in memory: its ints have 64 bits, its keys are no longer than a machine holds.
-/
import Derived.Test.YtkpomcimaofkkaaDoorV13
import Derived.Test.YtkpomcimaofkkaaDoorV2
import Derived.Test.YtkpomcimaofkkaaDoorV9
import Derived.Test.YtkpomcimaofkkaaDoorV12
import Derived.Deep.Slices
import Derived.OpenShut
import Derived.SizedLaws
namespace Go.Proofs.YtkpomcimaofkkaaDoor.Rp
set_option linter.unusedVariables false
set_option linter.unusedSimpArgs false
open Go.RowKit Go.Lib

set_option maxHeartbeats 8000000 in
set_option maxRecDepth 100000 in
theorem prints_walk (r : MR) (v : Value) (w : World) (hN : NamesAt w) (ht : Lib.TabIs Tryd.prog w "internal/strconv.uint64pow10" .u64 Lib.pow10Tab) (h : RepIn w v r) (hi : InR r) (hsm : SmR r) :
    Calls Tryd.prog 3 #[v] w fun e w' => e = .returned (.bool true) ∧ Below w.heap.size w w' := by
  obtain ⟨t, u, al, e, x, os⟩ := r
  obtain ⟨av, ov, rfl, ha, ho⟩ := h
  obtain ⟨aa, ac, rfl, _, _⟩ := id (Tx.RowsIn.cells ha (by omega))
  obtain ⟨oa, oc, rfl, _, _⟩ := id ho.cells
  simp only [encR]
  obtain ⟨s, n, -, P11, P12⟩ := print_both t u aa al ac e x oa os oc w ha ho hi hsm ht hN
  obtain ⟨cr, hcr⟩ : ∃ cr, canR (t, u, al, e, x, os) = cr := ⟨_, rfl⟩
  have C6 : Hid (∀ V, Below w.heap.size w V → Calls Tryd.prog 6 #[.agg #[.int .i64 t, .bool u, .slice aa al.length ac, .int .i64 e, .int .i64 x, .slice oa os.length oc]] V fun en w' => en = .returned (.bool cr) ∧ Below V.heap.size V w') := fun V hb => by rw [← hcr]; exact ccan_is (S := All) t u aa al ac e x oa os oc V (ansIn_later ha hb) (hN.later hb)
  have C7 : Hid (∀ V, Below w.heap.size w V → Calls Tryd.prog 7 #[.agg #[.int .i64 t, .bool u, .slice aa al.length ac, .int .i64 e, .int .i64 x, .slice oa os.length oc]] V fun en w' => en = .returned (.bool cr) ∧ Below V.heap.size V w') := fun V hb => by rw [← hcr]; exact dcan_is (S := All) t u aa al ac e x oa os oc V (ansIn_later ha hb) hsm
  have BX := box_new w #[.int .i64 t, .bool u, .slice aa al.length ac, .int .i64 e, .int .i64 x, .slice oa os.length oc] 25
  have A1 := hid (below_box w (.cells #[.int .i64 t, .bool u, .slice aa al.length ac, .int .i64 e, .int .i64 x, .slice oa os.length oc] 25))
  obtain ⟨W, hW⟩ : ∃ W, w.alloc (.cells #[.int .i64 t, .bool u, .slice aa al.length ac, .int .i64 e, .int .i64 x, .slice oa os.length oc] 25) = W := ⟨_, rfl⟩
  obtain ⟨o, hoo⟩ : ∃ o, w.heap.size = o := ⟨_, rfl⟩
  have BW1 : Hid (Below w.heap.size w W) := by rw [← hW]; exact A1.out
  rw [hW, hoo] at BX
  have HBX := hid BX
  obtain ⟨c0, c1, c2, c3, c4, c5⟩ := BX.cells
  clear BX A1 ha ho hi hsm hN ht hcr
  go_enter Tryd.func3, Tryd.ntmps3
  go_wp2_with fail
  go_at_call 4
  refine (P11.out _ BW1.out).mono ?_
  rintro en w1 ⟨rfl, b1⟩
  have B1 : Hid (Below w.heap.size w w1) := BW1.out.trans (b1.mono BW1.out.size)
  have HB1 := hid (HBX.out.later b1)
  obtain ⟨d0, d1, d2, d3, d4, d5⟩ := HB1.out.cells
  clear b1 hW hoo P11 c0 c1 c2 c3 c4 c5 HBX
  go_wp2_with fail
  go_at_call 5
  refine (P12.out _ B1.out).mono ?_
  rintro en w2 ⟨rfl, b2⟩
  have B2 : Hid (Below w.heap.size w w2) := B1.out.trans (b2.mono B1.out.size)
  have HB2 := hid (HB1.out.later b2)
  clear b2 P12 d0 d1 d2 d3 d4 d5 HB1
  have BB : Hid (∀ V, Below w2.heap.size w2 V → Below w.heap.size w V) := fun V hb => B2.out.trans (hb.mono B2.out.size)
  obtain ⟨b2, eb2⟩ : ∃ b, (s.toList == s.toList) = b := ⟨_, rfl⟩
  obtain ⟨b6, eb6⟩ : ∃ b, (n == n) = b := ⟨_, rfl⟩
  obtain ⟨b7, eb7⟩ : ∃ b, (b2 && b6) = b := ⟨_, rfl⟩
  obtain ⟨b13, eb13⟩ : ∃ b, (cr == cr) = b := ⟨_, rfl⟩
  obtain ⟨b14, eb14⟩ : ∃ b, (b7 && b13) = b := ⟨_, rfl⟩
  have HT : Hid (b14 = true) := by show _ = _; subst eb14 eb13 eb7 eb6 eb2; simp
  go_wp2_with fail
  refine wp_region_ask Tryd.mixedOrders (by kernel_rfl) (fun val => { tmps := #[_, _, val 15, _, _, _, _, _, _, _, _, _, _, _, _, _, _, val 0, val 1, val 2, val 3, val 4, val 5, val 6, val 7, val 8, val 9, val 10, val 11, val 12, val 13, val 14], defers := [] }) (fun i y V => match i with | 0 => y = .string s | 1 => y = .string s | 2 => y = .bool b2 | 3 => y = .bool b2 | 4 => b2 = true → y = .int .i64 n | 5 => b2 = true → y = .int .i64 n | 6 => b2 = true → y = .bool b6 | 7 => y = .bool b7 | 8 => y = .bool b7 | 9 => b7 = true → y = .agg #[.int .i64 t, .bool u, .slice aa al.length ac, .int .i64 e, .int .i64 x, .slice oa os.length oc] | 10 => b7 = true → y = .bool cr | 11 => b7 = true → y = .agg #[.int .i64 t, .bool u, .slice aa al.length ac, .int .i64 e, .int .i64 x, .slice oa os.length oc] | 12 => b7 = true → y = .bool cr | 13 => b7 = true → y = .bool b13 | 14 => y = .bool b14 | 15 => y = .bool b14 | _ => True) (fun i => match i with | 0 => undef | 1 => undef | 2 => undef | 3 => undef | 4 => undef | 5 => undef | 6 => undef | 7 => undef | 8 => undef | 9 => undef | 10 => undef | 11 => undef | 12 => undef | 13 => undef | 14 => undef | 15 => (.bool false) | _ => undef) rfl ?_ _ rfl ⟨?_, ?_, ?_, ?_, ?_, ?_, ?_, ?_, ?_, ?_, ?_, ?_, ?_, ?_, ?_, ?_, trivial⟩ ?_
  · intro i v w w' h hb
    match i, h with
    | 0, h => exact h
    | 1, h => exact h
    | 2, h => exact h
    | 3, h => exact h
    | 4, h => exact h
    | 5, h => exact h
    | 6, h => exact h
    | 7, h => exact h
    | 8, h => exact h
    | 9, h => exact h
    | 10, h => exact h
    | 11, h => exact h
    | 12, h => exact h
    | 13, h => exact h
    | 14, h => exact h
    | 15, h => exact h
    | _ + 16, h => trivial
  · refine ask_plain rfl (fun _ _ => rfl) (fun val V hb hd => ?_)
    refine does_value (v := .string s) ?_ rfl
    simp [execOp, Act.eval, go_sem]
  · refine ask_plain rfl (fun _ _ => rfl) (fun val V hb hd => ?_)
    refine does_value (v := .string s) ?_ rfl
    simp [execOp, Act.eval, go_sem]
  · refine ask_plain rfl (fun _ _ => rfl) (fun val V hb hd => ?_)
    have h0 : val 0 = .string s := depsAll_get hd 0 (by kernel_rfl)
    have h1 : val 1 = .string s := depsAll_get hd 1 (by kernel_rfl)
    subst eb2
    refine does_value ?_ rfl
    simp [execOp, Act.eval, go_sem, h0, h1]
  · refine ask_plain rfl (fun _ _ => rfl) (fun val V hb hd => ?_)
    have h2 : val 2 = .bool b2 := depsAll_get hd 2 (by kernel_rfl)
    refine does_value (v := .bool b2) ?_ rfl
    simp [execOp, Act.eval, go_sem, h2]
  · refine ask_if b2 (fun _ _ => rfl) (fun val V hd => ?_) (fun hc val V hb hd => ?_) (fun hc W h => by rw [hc] at h; cases h)
    · have hj : val 3 = .bool b2 := depsAll_get hd 3 (by kernel_rfl)
      cases b2 <;> simp [Region.wanted, yielded, hj]
    refine does_value (v := .int .i64 n) ?_ (fun _ => rfl)
    simp [execOp, Act.eval, go_sem]
  · refine ask_if b2 (fun _ _ => rfl) (fun val V hd => ?_) (fun hc val V hb hd => ?_) (fun hc W h => by rw [hc] at h; cases h)
    · have hj : val 3 = .bool b2 := depsAll_get hd 3 (by kernel_rfl)
      cases b2 <;> simp [Region.wanted, yielded, hj]
    refine does_value (v := .int .i64 n) ?_ (fun _ => rfl)
    simp [execOp, Act.eval, go_sem]
  · refine ask_if b2 (fun _ _ => rfl) (fun val V hd => ?_) (fun hc val V hb hd => ?_) (fun hc W h => by rw [hc] at h; cases h)
    · have hj : val 3 = .bool b2 := depsAll_get hd 3 (by kernel_rfl)
      cases b2 <;> simp [Region.wanted, yielded, hj]
    have h4 : val 4 = .int .i64 n := depsAll_get hd 4 (by kernel_rfl) hc
    have h5 : val 5 = .int .i64 n := depsAll_get hd 5 (by kernel_rfl) hc
    subst eb6
    refine does_value ?_ (fun _ => rfl)
    simp [execOp, Act.eval, go_sem, h4, h5]
  · refine ask_plain rfl (fun _ _ => rfl) (fun val V hb hd => ?_)
    have h3 : val 3 = .bool b2 := depsAll_get hd 3 (by kernel_rfl)
    have q6 := depsAll_get hd 6 (by kernel_rfl)
    exact does_value (pick_and rfl rfl h3 (fun hp => q6 hp) eb7) rfl
  · refine ask_plain rfl (fun _ _ => rfl) (fun val V hb hd => ?_)
    have h7 : val 7 = .bool b7 := depsAll_get hd 7 (by kernel_rfl)
    refine does_value (v := .bool b7) ?_ rfl
    simp [execOp, Act.eval, go_sem, h7]
  · refine ask_if b7 (fun _ _ => rfl) (fun val V hd => ?_) (fun hc val V hb hd => ?_) (fun hc W h => by rw [hc] at h; cases h)
    · have hj : val 8 = .bool b7 := depsAll_get hd 8 (by kernel_rfl)
      cases b7 <;> simp [Region.wanted, yielded, hj]
    obtain ⟨k0, k1, k2, k3, k4, k5⟩ := (HB2.out.later hb).cells
    refine does_value (v := .agg #[.int .i64 t, .bool u, .slice aa al.length ac, .int .i64 e, .int .i64 x, .slice oa os.length oc]) ?_ (fun _ => rfl)
    simp [execOp, Act.eval, go_sem, k0, k1, k2, k3, k4, k5]
  · refine ask_if b7 (fun _ _ => rfl) (fun val V hd => ?_) (fun hc val V hb hd => ?_) (fun hc W h => by rw [hc] at h; cases h)
    · have hj : val 8 = .bool b7 := depsAll_get hd 8 (by kernel_rfl)
      cases b7 <;> simp [Region.wanted, yielded, hj]
    have h9 : val 9 = .agg #[.int .i64 t, .bool u, .slice aa al.length ac, .int .i64 e, .int .i64 x, .slice oa os.length oc] := depsAll_get hd 9 (by kernel_rfl) hc
    refine does_call (f := 6) (args := #[.agg #[.int .i64 t, .bool u, .slice aa al.length ac, .int .i64 e, .int .i64 x, .slice oa os.length oc]]) ?_ (C6.out V (BB.out V hb)) ?_
    · simp [execOp, Act.eval, go_sem, resolve, invoke, h9]
    · rintro e w3 ⟨rfl, hb2⟩
      exact ⟨_, rfl, fun _ => rfl, hb2⟩
  · refine ask_if b7 (fun _ _ => rfl) (fun val V hd => ?_) (fun hc val V hb hd => ?_) (fun hc W h => by rw [hc] at h; cases h)
    · have hj : val 8 = .bool b7 := depsAll_get hd 8 (by kernel_rfl)
      cases b7 <;> simp [Region.wanted, yielded, hj]
    obtain ⟨k0, k1, k2, k3, k4, k5⟩ := (HB2.out.later hb).cells
    refine does_value (v := .agg #[.int .i64 t, .bool u, .slice aa al.length ac, .int .i64 e, .int .i64 x, .slice oa os.length oc]) ?_ (fun _ => rfl)
    simp [execOp, Act.eval, go_sem, k0, k1, k2, k3, k4, k5]
  · refine ask_if b7 (fun _ _ => rfl) (fun val V hd => ?_) (fun hc val V hb hd => ?_) (fun hc W h => by rw [hc] at h; cases h)
    · have hj : val 8 = .bool b7 := depsAll_get hd 8 (by kernel_rfl)
      cases b7 <;> simp [Region.wanted, yielded, hj]
    have h11 : val 11 = .agg #[.int .i64 t, .bool u, .slice aa al.length ac, .int .i64 e, .int .i64 x, .slice oa os.length oc] := depsAll_get hd 11 (by kernel_rfl) hc
    refine does_call (f := 7) (args := #[.agg #[.int .i64 t, .bool u, .slice aa al.length ac, .int .i64 e, .int .i64 x, .slice oa os.length oc]]) ?_ (C7.out V (BB.out V hb)) ?_
    · simp [execOp, Act.eval, go_sem, resolve, invoke, h11]
    · rintro e w3 ⟨rfl, hb2⟩
      exact ⟨_, rfl, fun _ => rfl, hb2⟩
  · refine ask_if b7 (fun _ _ => rfl) (fun val V hd => ?_) (fun hc val V hb hd => ?_) (fun hc W h => by rw [hc] at h; cases h)
    · have hj : val 8 = .bool b7 := depsAll_get hd 8 (by kernel_rfl)
      cases b7 <;> simp [Region.wanted, yielded, hj]
    have h10 : val 10 = .bool cr := depsAll_get hd 10 (by kernel_rfl) hc
    have h12 : val 12 = .bool cr := depsAll_get hd 12 (by kernel_rfl) hc
    subst eb13
    refine does_value ?_ (fun _ => rfl)
    simp [execOp, Act.eval, go_sem, h10, h12]
  · refine ask_plain rfl (fun _ _ => rfl) (fun val V hb hd => ?_)
    have h8 : val 8 = .bool b7 := depsAll_get hd 8 (by kernel_rfl)
    have q13 := depsAll_get hd 13 (by kernel_rfl)
    exact does_value (pick_and rfl rfl h8 (fun hp => q13 hp) eb14) rfl
  · refine ask_plain rfl (fun _ _ => rfl) (fun val V hb hd => ?_)
    have h14 : val 14 = .bool b14 := depsAll_get hd 14 (by kernel_rfl)
    refine does_value (v := .bool b14) ?_ rfl
    simp [execOp, Act.eval, go_sem, h14]
  · intro val V hb hR
    have hr : val 15 = .bool b14 := hR 15 (by decide)
    have BV : Hid (Below w.heap.size w V) := BB.out V hb
    clear hR hb
    simp only [hr]
    rw [HT.out]
    go_wp2_with fail
    go_ret
    exact ⟨rfl, BV.out⟩
end Go.Proofs.YtkpomcimaofkkaaDoor.Rp
namespace Go.Proofs.YtkpomcimaofkkaaDoor.Rp
set_option linter.unusedVariables false
set_option linter.unusedSimpArgs false
open Go.RowKit Go.ChangeShapes Go.WideShapes

theorem Tryd.cells4r : Tryd.prog.cellsOf 4 = 1 := by kernel_rfl
theorem Tryd.cells3r : Tryd.prog.cellsOf 3 = 1 := by kernel_rfl
theorem Tryd.cells9r : Tryd.prog.cellsOf 9 = 1 := by kernel_rfl
theorem Tryd.cellsIr : Tryd.prog.cellsOf 23 = 1 := by kernel_rfl
theorem Tryd.cellsWr : Tryd.prog.cellsOf 44 = 1 := by kernel_rfl
theorem Tryd.cellsAr : Tryd.prog.cellsOf 22 = 1 := by kernel_rfl
theorem Tryd.cellsOW : Tryd.prog.cellsOf 59 = 8 := by kernel_rfl
theorem Tryd.cellsOA : Tryd.prog.cellsOf 46 = 9 := by kernel_rfl
theorem Tryd.cellsOR : Tryd.prog.cellsOf 25 = 6 := by kernel_rfl
theorem Tryd.bytes3r : Tryd.prog.bytesOf 3 = 8 := by kernel_rfl
theorem Tryd.bytesOW : Tryd.prog.bytesOf 59 = 64 := by kernel_rfl
theorem Tryd.bytesOA : Tryd.prog.bytesOf 46 = 96 := by kernel_rfl

section
variable {H : Type} {enc : TypeId × Value → H} {P : Program} {w : World} {base : Nat} {spare : Nat → Bool} {held : Bool}

theorem weightsAll_mem {e : TypeId} {n : Nat} {d : DataW H} : ∀ {ds : List (DataW H)}, d ∈ ds → n ∈ d.weights P e → n ∈ DataW.weightsAll P e ds
  | [], hd, _ => by simp at hd
  | x :: ds, hd, hn => by
    simp only [DataW.weightsAll, List.mem_append]
    rcases List.mem_cons.1 hd with rfl | hd
    · exact Or.inl hn
    · exact Or.inr (weightsAll_mem hd hn)

/-- A slice of elements of k cells, each of which can be read. -/
theorem rows_of_trod {α : Type} [Inhabited α] {t e : TypeId} {k bytes fuel : Nat} {R : List Value → α → Prop} {cs : List Value} {x : DataW H × List MemPlace}
    (ht : P.underlying t = some (.slice e)) (hk : P.cellsOf e = k) (hk0 : 0 < k) (hby : P.bytesOf e = bytes)
    (h : DataW.trod enc P w base spare held fuel t cs = some x) (hw : ∀ n ∈ x.1.weights P t, n ≤ reachBytes)
    (he : ∀ (n : Nat) (cs' : List Value) (y : DataW H × List MemPlace), cs'.length = k → DataW.trod enc P w base spare held n e cs' = some y → (∀ n ∈ y.1.weights P e, n ≤ reachBytes) → ∃ a : α, R cs' a) :
    ∃ v l, cs = [v] ∧ RowsIn k bytes R All w v l := by
  rcases Deep.open_slice ht h with ⟨rfl, rfl⟩ | ⟨a, len, cap, m, n, D, Pl, rfl, hb, hl, hm, hmm, rfl, hx⟩
  · exact ⟨_, [], rfl, none, 0, rfl, ⟨by simp, Nat.le_refl _⟩, fun h => by simp at h⟩
  · have hlm : len ≤ m := by rw [hmm]; split <;> omega
    rw [hk] at hx
    have key : ∀ i, i < len → ∃ q : α × List Value, q.2.length = k ∧ R q.2 q.1 ∧ ∀ j, j < k → w.cell? (a.add (i * k + j)) = q.2[j]? := fun i hi => by
      obtain ⟨cs', h1, h2⟩ := hx i (by omega)
      obtain ⟨_, hlen, hc⟩ := World.cells?_some h1
      obtain ⟨y, hy⟩ := he n cs' _ hlen h2 (fun q hq => hw q (by
        simp only [DataW.weights, ht, List.mem_cons, List.mem_append]
        exact Or.inr (Or.inl (weightsAll_mem (d := D i) (by simp; exact ⟨i, hi, rfl⟩) hq))))
      exact ⟨(y, cs'), hlen, hy, fun j hj => by rw [← Deep.add_add]; exact hc j hj⟩
    obtain ⟨f, hf⟩ := Deep.choose_lt (α := α × List Value) key
    refine ⟨_, (List.range len).map (fun i => (f i).1), rfl, some a, cap, by simp, ⟨?_, by simpa using hl⟩, fun h0 => ?_⟩
    · have := hw ((len + (m - len)) * P.bytesOf e) (by simp [DataW.weights, ht])
      rw [hby] at this
      simp only [List.length_map, List.length_range]
      have h2 : len * bytes ≤ (len + (m - len)) * bytes := Nat.mul_le_mul_right _ (by omega)
      have h3 : reachBytes ≤ 140737488355328 := by decide
      omega
    · simp only [List.length_map, List.length_range] at h0
      obtain ⟨b, off, spot⟩ := a
      have hspot : spot = none := by
        obtain ⟨h1, _, h3⟩ := hf 0 h0
        have := h3 0 hk0
        rw [List.getElem?_eq_getElem (by omega)] at this
        simpa [Addr.add] using World.cell?_spot this
      subst hspot
      refine ⟨b, off, rfl, trivial, fun j hj => ?_⟩
      simp only [List.length_map, List.length_range] at hj
      obtain ⟨h1, h2, h3⟩ := hf j hj
      refine ⟨(f j).2, h1, ?_, fun i u hi => ?_⟩
      · simpa [List.getD, hj] using h2
      · have hik : i < k := by rw [← h1]; exact (List.getElem?_eq_some_iff.1 hi).1
        have := h3 i hik
        rw [Addr.add_lit, hi] at this
        simpa [Nat.add_assoc] using this
end

/-- What holds of each row's element holds of each element. -/
theorem rows_all {α : Type} [Inhabited α] {k bytes : Nat} {R : List Value → α → Prop} {C : α → Prop} {S : Nat → Prop} {w : World} {v : Value} {l : List α} (h : RowsIn k bytes (fun cs a => R cs a ∧ C a) S w v l) : RowsIn k bytes R S w v l ∧ ∀ a ∈ l, C a := by
  obtain ⟨ao, c, hv, hl, hc⟩ := h
  refine ⟨⟨ao, c, hv, hl, fun h0 => ?_⟩, fun a ha => ?_⟩
  · obtain ⟨b, off, e1, e2, hj⟩ := hc h0
    refine ⟨b, off, e1, e2, fun j hlt => ?_⟩
    obtain ⟨cs, q1, q2, q3⟩ := hj j hlt
    exact ⟨cs, q1, q2.1, q3⟩
  · obtain ⟨j, hj, e⟩ := List.mem_iff_getElem.1 ha
    obtain ⟨b, off, _, _, hcc⟩ := hc (by omega)
    obtain ⟨cs, _, q2, _⟩ := hcc j hj
    have : l.getD j default = a := by simp [List.getD, List.getElem?_eq_getElem hj, e]
    rw [this] at q2
    exact q2.2


theorem wf_range {n : Int} (h : (Lit.int .i64 n).wf = true) : i64R n := by
  simp only [Lit.wf, Bool.and_eq_true, decide_eq_true_eq] at h
  exact h
theorem str_short {H : Type} {P : Program} {t : TypeId} {s : ByteArray} {d : DataW H} (ht : P.underlying t = some .string) (g : d = .lit (.string s.data.toList)) (hw : ∀ n ∈ d.weights P t, n ≤ reachBytes) : s.size ≤ 140737488355328 := by
  have := hw s.data.toList.length (by rw [g]; simp [DataW.weights, ht])
  rw [Array.length_toList] at this
  have h3 : reachBytes ≤ 140737488355328 := by decide
  exact Nat.le_trans this h3
section
variable {H : Type} {enc : TypeId × Value → H} {w : World} {base : Nat} {spare : Nat → Bool} {held : Bool}

/-- A list of ints. -/
theorem ints_of_trod {fuel : Nat} {cs : List Value} {x : DataW H × List MemPlace} (h : DataW.trod enc Tryd.prog w base spare held fuel 23 cs = some x) (hw : ∀ n ∈ x.1.weights Tryd.prog 23, n ≤ reachBytes) :
    ∃ v l, cs = [v] ∧ IntsIn All w v l ∧ ∀ a ∈ l, i64R a := by
  obtain ⟨v, l, hv, hr⟩ := rows_of_trod (R := fun cs (a : Int) => cs = [.int .i64 a] ∧ i64R a) (k := 1) (bytes := 8) Tryd.underlying23 Tryd.cells3r (by omega) Tryd.bytes3r h hw (fun n cs' y hlen hy _ => by
    obtain ⟨z, hz, _, hz2⟩ := DataW.trod_int Tryd.underlying3 hy
    exact ⟨z, hz, wf_range hz2⟩)
  obtain ⟨⟨ao, c, hvv, hl, hc⟩, hall⟩ := rows_all hr
  refine ⟨v, l, hv, ⟨ao, c, hvv, hl, fun h0 => ?_⟩, hall⟩
  obtain ⟨b, off, ha, _, hj⟩ := hc h0
  refine ⟨b, off, ha, trivial, fun j hlt => ?_⟩
  obtain ⟨cs', _, hcs, hcc⟩ := hj j hlt
  have := hcc 0 (.int .i64 (l.getD j default)) (by rw [hcs]; rfl)
  simpa using this

set_option maxRecDepth 10000 in
/-- A dependency's eight cells. -/
theorem why_of_trod (n : Nat) (cs : List Value) (y : DataW H × List MemPlace) (hlen : cs.length = 8) (h : DataW.trod enc Tryd.prog w base spare held n 59 cs = some y) (hw : ∀ n ∈ y.1.weights Tryd.prog 59, n ≤ reachBytes) :
    ∃ a : MW, cs = encW a ∧ InW a ∧ SmW a := by
  obtain ⟨xs, m, rfl, rfl, _, hxl, hf⟩ := DataW.trod_struct Tryd.underlying59 h
  match cs, hlen with
  | [c0, c1, c2, c3, c4, c5, c6, c7], _ =>
    match xs, hxl with
    | [x0, x1, x2, x3, x4, x5, x6, x7], _ =>
      have f0 := hf 0 _ rfl
      have f1 := hf 1 _ rfl
      have f2 := hf 2 _ rfl
      have f3 := hf 3 _ rfl
      have f4 := hf 4 _ rfl
      have f5 := hf 5 _ rfl
      have f6 := hf 6 _ rfl
      have f7 := hf 7 _ rfl
      simp [Tryd.cells3r, Tryd.cells4r, Tryd.cells9r] at f0 f1 f2 f3 f4 f5 f6 f7
      obtain ⟨k0, e0, _, w0⟩ := DataW.trod_int Tryd.underlying3 f0
      obtain ⟨k1, e1, _, w1⟩ := DataW.trod_int Tryd.underlying3 f1
      obtain ⟨k2, e2, _⟩ := DataW.trod_int Tryd.underlying3 f2
      obtain ⟨k3, e3, g3, _⟩ := DataW.trod_string Tryd.underlying9 f3
      obtain ⟨k4, e4, _, w4⟩ := DataW.trod_int Tryd.underlying3 f4
      obtain ⟨k5, e5, _, w5⟩ := DataW.trod_int Tryd.underlying3 f5
      obtain ⟨k6, e6, _⟩ := DataW.trod_bool Tryd.underlying4 f6
      obtain ⟨k7, e7, _⟩ := DataW.trod_bool Tryd.underlying4 f7
      have hk3 : k3.size ≤ 140737488355328 := str_short (P := Tryd.prog) Tryd.underlying9 (congrArg Prod.fst g3) (fun n hn => hw n (by
        simp only [DataW.weights, Tryd.underlying59]
        exact DataW.weights_mem_each (j := 3) rfl rfl n hn))
      simp at e0 e1 e2 e3 e4 e5 e6 e7
      subst e0 e1 e2 e3 e4 e5 e6 e7
      exact ⟨⟨k0, k1, k2, k3, k4, k5, k6, k7⟩, rfl, ⟨wf_range w0, wf_range w1, wf_range w4, wf_range w5⟩, hk3⟩

/-- Dependencies. -/
theorem whys_of_trod {fuel : Nat} {cs : List Value} {x : DataW H × List MemPlace} (h : DataW.trod enc Tryd.prog w base spare held fuel 44 cs = some x) (hw : ∀ n ∈ x.1.weights Tryd.prog 44, n ≤ reachBytes) :
    ∃ v l, cs = [v] ∧ WhysIn w v l ∧ ∀ a ∈ l, InW a ∧ SmW a := by
  obtain ⟨v, l, hv, hr⟩ := rows_of_trod (R := fun cs (a : MW) => cs = encW a ∧ (InW a ∧ SmW a)) (k := 8) (bytes := 64) Tryd.underlying44 Tryd.cellsOW (by omega) Tryd.bytesOW h hw why_of_trod
  obtain ⟨h1, hall⟩ := rows_all hr
  exact ⟨v, l, hv, h1, hall⟩

set_option maxRecDepth 10000 in
/-- An anomaly's nine cells. -/
theorem an_of_trod (n : Nat) (cs : List Value) (y : DataW H × List MemPlace) (hlen : cs.length = 9) (h : DataW.trod enc Tryd.prog w base spare held n 46 cs = some y) (hw : ∀ n ∈ y.1.weights Tryd.prog 46, n ≤ reachBytes) :
    ∃ a : MA, AnRow w cs a ∧ (InA a ∧ SmA a) := by
  obtain ⟨xs, m, rfl, rfl, _, hxl, hf⟩ := DataW.trod_struct Tryd.underlying46 h
  match cs, hlen with
  | [c0, c1, c2, c3, c4, c5, c6, c7, c8], _ =>
    match xs, hxl with
    | [x0, x1, x2, x3, x4, x5, x6, x7, x8], _ =>
      have f0 := hf 0 _ rfl
      have f1 := hf 1 _ rfl
      have f2 := hf 2 _ rfl
      have f3 := hf 3 _ rfl
      have f4 := hf 4 _ rfl
      have f5 := hf 5 _ rfl
      have f6 := hf 6 _ rfl
      have f7 := hf 7 _ rfl
      have f8 := hf 8 _ rfl
      simp [Tryd.cells3r, Tryd.cells4r, Tryd.cells9r, Tryd.cellsWr] at f0 f1 f2 f3 f4 f5 f6 f7 f8
      obtain ⟨k0, e0, _⟩ := DataW.trod_int Tryd.underlying3 f0
      obtain ⟨k1, e1, _, w1⟩ := DataW.trod_int Tryd.underlying3 f1
      obtain ⟨k2, e2, _, w2⟩ := DataW.trod_int Tryd.underlying3 f2
      obtain ⟨k3, e3, _, w3⟩ := DataW.trod_int Tryd.underlying3 f3
      obtain ⟨k4, e4, g4, _⟩ := DataW.trod_string Tryd.underlying9 f4
      obtain ⟨k5, e5, _, w5⟩ := DataW.trod_int Tryd.underlying3 f5
      obtain ⟨v6, k6, e6, l6, i6⟩ := whys_of_trod f6 (fun n hn => hw n (by
        simp only [DataW.weights, Tryd.underlying46]
        exact DataW.weights_mem_each (j := 6) rfl rfl n hn))
      obtain ⟨k7, e7, _⟩ := DataW.trod_bool Tryd.underlying4 f7
      obtain ⟨k8, e8, _⟩ := DataW.trod_int Tryd.underlying3 f8
      have hk4 : k4.size ≤ 140737488355328 := str_short (P := Tryd.prog) Tryd.underlying9 (congrArg Prod.fst g4) (fun n hn => hw n (by
        simp only [DataW.weights, Tryd.underlying46]
        exact DataW.weights_mem_each (j := 4) rfl rfl n hn))
      simp at e0 e1 e2 e3 e4 e5 e6 e7 e8
      subst e0 e1 e2 e3 e4 e5 e6 e7 e8
      exact ⟨⟨k0, k1, k2, k3, k4, k5, k6, k7, k8⟩, ⟨c6, rfl, l6⟩, ⟨wf_range w1, wf_range w2, wf_range w3, wf_range w5, fun x hx => (i6 x hx).1⟩, hk4, fun x hx => (i6 x hx).2⟩

/-- Anomalies. -/
theorem ans_of_trod {fuel : Nat} {cs : List Value} {x : DataW H × List MemPlace} (h : DataW.trod enc Tryd.prog w base spare held fuel 22 cs = some x) (hw : ∀ n ∈ x.1.weights Tryd.prog 22, n ≤ reachBytes) :
    ∃ v l, cs = [v] ∧ AnsIn w v l ∧ ∀ a ∈ l, InA a ∧ SmA a := by
  obtain ⟨v, l, hv, hr⟩ := rows_of_trod (R := fun cs (a : MA) => AnRow w cs a ∧ (InA a ∧ SmA a)) (k := 9) (bytes := 96) Tryd.underlying22 Tryd.cellsOA (by omega) Tryd.bytesOA h hw an_of_trod
  obtain ⟨h1, hall⟩ := rows_all hr
  exact ⟨v, l, hv, h1, hall⟩

set_option maxRecDepth 10000 in
/-- A report's six cells. -/
theorem rep_of_trod (n : Nat) (cs : List Value) (y : DataW H × List MemPlace) (hlen : cs.length = 6) (h : DataW.trod enc Tryd.prog w base spare held n 25 cs = some y) (hw : ∀ n ∈ y.1.weights Tryd.prog 25, n ≤ reachBytes) :
    ∃ r : MR, RepIn w (.agg cs.toArray) r ∧ InR r ∧ SmR r := by
  obtain ⟨xs, m, rfl, rfl, _, hxl, hf⟩ := DataW.trod_struct Tryd.underlying25 h
  match cs, hlen with
  | [c0, c1, c2, c3, c4, c5], _ =>
    match xs, hxl with
    | [x0, x1, x2, x3, x4, x5], _ =>
      have f0 := hf 0 _ rfl
      have f1 := hf 1 _ rfl
      have f2 := hf 2 _ rfl
      have f3 := hf 3 _ rfl
      have f4 := hf 4 _ rfl
      have f5 := hf 5 _ rfl
      simp [Tryd.cells3r, Tryd.cells4r, Tryd.cellsIr, Tryd.cellsAr] at f0 f1 f2 f3 f4 f5
      obtain ⟨k0, e0, _, w0⟩ := DataW.trod_int Tryd.underlying3 f0
      obtain ⟨k1, e1, _⟩ := DataW.trod_bool Tryd.underlying4 f1
      obtain ⟨v2, k2, e2, l2, i2⟩ := ans_of_trod f2 (fun n hn => hw n (by
        simp only [DataW.weights, Tryd.underlying25]
        exact DataW.weights_mem_each (j := 2) rfl rfl n hn))
      obtain ⟨k3, e3, _⟩ := DataW.trod_int Tryd.underlying3 f3
      obtain ⟨k4, e4, _⟩ := DataW.trod_int Tryd.underlying3 f4
      obtain ⟨v5, k5, e5, l5, i5⟩ := ints_of_trod f5 (fun n hn => hw n (by
        simp only [DataW.weights, Tryd.underlying25]
        exact DataW.weights_mem_each (j := 5) rfl rfl n hn))
      simp at e0 e1 e2 e3 e4 e5
      subst e0 e1 e2 e3 e4 e5
      exact ⟨⟨k0, k1, k2, k3, k4, k5⟩, ⟨c2, c5, rfl, l2, l5⟩, ⟨wf_range w0, fun a ha => (i2 a ha).1, i5⟩, fun a ha => (i2 a ha).2⟩
end
end Go.Proofs.YtkpomcimaofkkaaDoor.Rp
