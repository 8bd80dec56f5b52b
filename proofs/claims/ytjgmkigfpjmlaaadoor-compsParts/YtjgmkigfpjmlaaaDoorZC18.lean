/-
  The law CompsParts.
-/
import Derived.Test.YtjgmkigfpjmlaaaDoorZC17
import Derived.Test.YtjgmkigfpjmlaaaDoorZO6
namespace Go.Proofs.YtjgmkigfpjmlaaaDoor
set_option linter.unusedVariables false
set_option linter.unusedSimpArgs false
open Go.RowKit Go.Maps

theorem zero4 (w : World) : (zeroValue 4).run Tryd.prog w = .ok (.bool false) w := by kernel_rfl
/-- A map of numbers: which are in it. -/
def MS (w : World) (mb : Nat) (l : List Nat) : Prop := ∃ (k : Nat) (D : DataW Unit), k ≤ l.length ∧ w.ownsMap Tryd.prog 3 (plainElem Tryd.prog 4) mb k D ∧ Maps.size D = l.length ∧ (∀ x : Nat, Maps.has D (.int .i64 x) = true → x ∈ l) ∧ ∀ x : Nat, D.atKey (.int .i64 x) (.lit (.bool false)) = .lit (.bool (decide (x ∈ l)))
set_option maxRecDepth 100000 in
theorem plain_bool (x : Bool) : plainElem (H := Unit) Tryd.prog 4 (.bool x) = some (.lit (.bool x), []) := by
  unfold plainElem
  rw [Tryd.underlying4]
set_option maxRecDepth 100000 in
theorem plain_bool_inv {v : Value} {d : DataW Unit} {ps : List MemPlace} (h : plainElem Tryd.prog 4 v = some (d, ps)) : ∃ x, v = .bool x ∧ d = .lit (.bool x) := by
  unfold plainElem at h
  rw [Tryd.underlying4] at h
  cases v <;> simp at h
  exact ⟨_, rfl, h.1.symm⟩
theorem MS.made (w : World) : MS (w.alloc (.map #[] 0)) w.heap.size [] := ⟨0, _, Nat.le_refl _, World.ownsMap_made _ _ _ _, rfl, fun x h => (by cases h), fun x => by rw [show decide (x ∈ ([] : List Nat)) = false by simp]; rfl⟩
theorem MS.later {w w' : World} {mb : Nat} {l : List Nat} (h : MS w mb l) (hb : Below w.heap.size w w') : MS w' mb l := by
  obtain ⟨k, D, h0, ⟨es, clock, h1, h2, h3, h4⟩, h5⟩ := h
  exact ⟨k, D, h0, ⟨es, clock, (hb.block mb (blt h1)).trans h1, h2, h3, h4⟩, h5⟩
set_option maxRecDepth 100000 in
theorem MS.look {w : World} {mb : Nat} {l : List Nat} (h : MS w mb l) (x : Nat) (hx : x ≤ 300) (hn : x ∉ l) : (Instr.lookup 38 (.map (some mb)) (.int .i64 (x : Nat)) false).run Tryd.prog w = .ok (.bool false) w := by
  obtain ⟨k, D, _, h1, _, _, h2⟩ := h
  obtain ⟨v, ps, hrun, hv⟩ := h1.lookup keys3 Tryd.underlying38 (zero4 w) (plain_bool false) (keyOf_int_mk Tryd.underlying3 (wf_small x hx))
  obtain ⟨y, rfl, hy⟩ := plain_bool_inv hv
  rw [h2, show decide (x ∈ l) = false by simpa using hn] at hy
  injection hy with hy
  injection hy with hy
  rw [hrun, hy]
set_option maxRecDepth 100000 in
theorem MS.len {w : World} {mb : Nat} {l : List Nat} (h : MS w mb l) (ty : TypeId) : (Builtin.len_ #[38] ty #[.map (some mb)]).run Tryd.prog w = .ok (.int .i64 l.length) w := by
  obtain ⟨k, D, _, h1, h2, _⟩ := h
  rw [h1.len Tryd.underlying38 ty, h2]
set_option maxRecDepth 100000 in
theorem wpList_ms {ops : Array Oper} {rest : List Oper} {o : Oper} {a : Act} {Q : Exit → Act → World → Prop} (w : World) (hg : o.guard = none) (m x v : Operand) (hop : o.op = Op.mapUpdate 38 m x v)
    (mb : Nat) (l : List Nat) (hm : a.eval m = .map (some mb)) (h : MS w mb l) (y : Nat) (hx : a.eval x = .int .i64 y) (hv : a.eval v = .bool true) (hy : y ≤ 300) (hnew : y ∉ l) (hl : l.length ≤ 300)
    (hK : ∀ w', MS w' mb (l ++ [y]) → Gro (fun b => b = mb) w w' → wpList Tryd.prog ops Q rest (a.put o.dst undef) w') : wpList Tryd.prog ops Q (o :: rest) a w := by
  obtain ⟨k, D, h0, h1, h2, h3, h4⟩ := h
  refine wpList_mapUpdate_own w hg m x v 38 hop 3 4 keys3 Tryd.underlying38 _ mb k D hm h1 (by unfold maxLen; omega) _ _ (.int .i64 (y : Int)) hx hv (keyOf_int_mk Tryd.underlying3 (wf_small y hy)) (.lit (.bool true)) [] (plain_bool true) (fun w' r1 r2 => hK w' ⟨k + 1, _, (by simp; omega), r1, ?_, fun z hz => ?_, fun z => ?_⟩ ⟨r2.os, r2.tape, r2.output, r2.size, fun b hb hn => r2.block b hb (fun e => hn (by injection e))⟩)
  · rw [size_put (h1.tidy keys3)]
    have hf : Maps.has D (.int .i64 (y : Int)) = false := by
      cases hh : Maps.has D (.int .i64 (y : Int)) with
      | false => rfl
      | true => exact absurd (h3 y hh) hnew
    rw [hf, h2]
    simp
  · by_cases e : z = y
    · simp [e]
    · rw [has_put_other (by intro c; injection c with c1 c2; omega)] at hz
      exact List.mem_append_left _ (h3 z hz)
  · by_cases e : z = y
    · subst e
      rw [atKey_put_same h1.isMap (by first | trivial | exact ⟨⟩ | simp [WideAt.IsKeyLit])]
      simp
    · rw [atKey_put_other (by intro c; injection c with c1 c2; omega), h4]
      simp [e]

/-- Components are apart, and are all nodes. -/
theorem len_of_all : ∀ (n : Nat) (l : List Nat), (∀ v, v < n → v ∈ l) → n ≤ l.length
  | 0, l, _ => Nat.zero_le _
  | n + 1, l, h => by
    have h1 := h n (by omega)
    have h2 := len_of_all n (l.erase n) (fun v hv => (List.mem_erase_of_ne (by omega)).2 (h v (by omega)))
    rw [List.length_erase_of_mem h1] at h2
    have := List.length_pos_of_mem h1
    omega
theorem IsComps.flat {E : Nat → Nat → Bool} {n : Nat} {cs : List (List Nat)} (h : IsComps E n cs) : cs.flatten.Nodup ∧ cs.flatten.length = n ∧ ∀ v ∈ cs.flatten, v < n := by
  have h1 : cs.flatten.Nodup := by
    rw [List.nodup_iff_pairwise_ne, List.pairwise_flatten]
    refine ⟨fun c hc => (h.1 c hc).1.imp (fun {a b} hab e => by omega), h.2.2.imp_of_mem (fun {c d} hc hd hcd x hx y hy e => ?_)⟩
    subst e
    have e := (h.1 c hc).uniq (h.1 d hd) hx hy
    rw [e] at hcd
    omega
  have h2 : ∀ v ∈ cs.flatten, v < n := fun v hv => by
    obtain ⟨c, hc, hvc⟩ := List.mem_flatten.1 hv
    obtain ⟨_, u, _, h3⟩ := h.1 c hc
    exact ((h3 v).1 hvc).1
  refine ⟨h1, ?_, h2⟩
  have h3 := len_of_sub h1 h2
  have h4 := len_of_all n cs.flatten (fun v hv => by
    obtain ⟨c, hc, hvc⟩ := h.2.1 v hv
    exact List.mem_flatten.2 ⟨c, hc, hvc⟩)
  omega
/-- What is met ahead of member j of component k. -/
def upTo (cs : List (List Nat)) (k j : Nat) : List Nat := (cs.take k).flatten ++ (cs.getD k []).take j
theorem upTo_new {cs : List (List Nat)} {k j : Nat} (hnd : cs.flatten.Nodup) (hk : k < cs.length) (hj : j < (cs.getD k []).length) : (cs.getD k []).getD j 0 ∉ upTo cs k j ∧ (upTo cs k j).length < cs.flatten.length ∧ upTo cs k (j + 1) = upTo cs k j ++ [(cs.getD k []).getD j 0] ∧ (cs.getD k []).getD j 0 ∈ cs.flatten := by
  have e1 : cs = cs.take k ++ cs.getD k [] :: cs.drop (k + 1) := by
    have := List.take_append_drop k cs
    rw [List.drop_eq_getElem_cons hk] at this
    have e : cs.getD k [] = cs[k] := by simp [List.getD, hk]
    rw [e]
    exact this.symm
  have e2 : cs.getD k [] = (cs.getD k []).take j ++ (cs.getD k []).getD j 0 :: (cs.getD k []).drop (j + 1) := by
    have := List.take_append_drop j (cs.getD k [])
    rw [List.drop_eq_getElem_cons hj] at this
    have e : (cs.getD k []).getD j 0 = (cs.getD k [])[j] := by rw [List.getD_eq_getElem?_getD, List.getElem?_eq_getElem hj]; rfl
    rw [e]
    exact this.symm
  have e3 : cs.flatten = upTo cs k j ++ ((cs.getD k []).getD j 0 :: ((cs.getD k []).drop (j + 1) ++ (cs.drop (k + 1)).flatten)) := by
    have q : cs.flatten = (cs.take k).flatten ++ (cs.getD k [] ++ (cs.drop (k + 1)).flatten) := by
      have := congrArg List.flatten e1
      rw [List.flatten_append, List.flatten_cons] at this
      exact this
    have q2 : cs.getD k [] ++ (cs.drop (k + 1)).flatten = (cs.getD k []).take j ++ ((cs.getD k []).getD j 0 :: ((cs.getD k []).drop (j + 1) ++ (cs.drop (k + 1)).flatten)) := by
      have := congrArg (fun l => l ++ (cs.drop (k + 1)).flatten) e2
      simpa using this
    rw [q, q2]
    unfold upTo
    rw [List.append_assoc]
  refine ⟨fun hm => ?_, ?_, ?_, ?_⟩
  · rw [e3, List.nodup_append] at hnd
    exact hnd.2.2 _ hm _ (by simp) rfl
  · rw [e3]; simp
  · unfold upTo
    rw [take_get _ j hj, List.append_assoc]
  · rw [e3]; simp
theorem upTo_end {cs : List (List Nat)} {k : Nat} (hk : k < cs.length) : upTo cs k (cs.getD k []).length = (cs.take (k + 1)).flatten := by
  have e : cs.getD k [] = cs[k] := by simp [List.getD, hk]
  unfold upTo
  rw [List.take_length, List.take_succ_eq_append_getElem hk, List.flatten_append, e]
  simp
theorem upTo_0 (cs : List (List Nat)) (k : Nat) : upTo cs k 0 = (cs.take k).flatten := by simp [upTo]
theorem Fnd.gro {w w' : World} {H mb : Nat} {v : Value} {fs : List (List Nat × Value)} (h : Fnd w H v fs) (hg : Gro (fun b => b = mb) w w') (hb : mb < H) : Fnd w' H v fs :=
  ⟨own_gro h.1 hg (fun g e c => by have := (own_tag h.1 e).1; omega), fun p hp => (h.2 p hp).gro hg (fun g q c => by have : H ≤ g := q; omega)⟩
theorem Fnd.cellOf {w : World} {H : Nat} {v : Value} {fs : List (List Nat × Value)} (h : Fnd w H v fs) {k : Nat} (hk : k < fs.length) {ea : Option Addr} {m ec : Nat} (he : (fs.getD k ([], .slice none 0 0)).2 = .slice ea m ec) :
    m = ((fs.map Prod.fst).getD k []).length ∧ ∀ j, j < ((fs.map Prod.fst).getD k []).length → ∃ bz oz, ea = some ⟨bz, oz, none⟩ ∧ w.cell? ⟨bz, oz + j, none⟩ = some (.int .i64 (((fs.map Prod.fst).getD k []).getD j 0 : Nat)) := by
  have hm : fs.getD k ([], .slice none 0 0) ∈ fs := by simp [List.getD, hk]
  have e1 : (fs.map Prod.fst).getD k [] = (fs.getD k ([], .slice none 0 0)).1 := by simp [List.getD, hk]
  obtain ⟨a, c, ee, ar⟩ := part_arg (h.2 _ hm)
  rw [he] at ee
  injection ee with q1 q2 q3
  subst q1
  rw [e1]
  refine ⟨by rw [q2]; simp [natI], fun j hj => ?_⟩
  obtain ⟨bz, oz, q, hc⟩ := ar j (by simpa [natI] using hj)
  refine ⟨bz, oz, q, ?_⟩
  rw [hc]
  generalize (fs.getD k ([], .slice none 0 0)).1 = l0 at hj
  congr 2
  simp [natI, List.getD, hj]

set_option maxHeartbeats 16000000 in
set_option maxRecDepth 100000 in
theorem parts_walk (n0 : Int) (ao : Option Addr) (cp : Nat) (es : List (Int × Int × Int)) (labels : Int) (w : World) (hz : ArgE w ao es) (hl : es.length ≤ maxLen) (hT : Tab w) :
    Calls Tryd.prog 5 #[.int .i64 n0, .slice ao es.length cp, .int .i64 labels] w fun e w' => e = .returned (.bool true) ∧ Below w.heap.size w w' := by
  obtain ⟨n, hn, hD0⟩ := u64_tmod n0 60 (by decide) (by decide)
  have hD : (IntKind.u64.wrap n0).tmod 60 = (n : Int) := hD0
  clear hD0
  have DR := hid (drawn_P n0 n hn hD ao cp es w hz hl)
  have TB := hid hT
  have hni : (n : Int) < 60 := by omega
  have hmm := @run_makeMap Tryd.prog
  clear hz hT hD
  go_enter Tryd.func5, Tryd.ntmps5
  go_wp2_with (go_at_call 9; refine DR.out.mono ?_; rintro e w1 ⟨⟨b, b2, rfl, h1⟩, bl⟩; have BO := hid h1; have B1 := hid bl; clear h1 bl)
  obtain ⟨r, bk, ck, v, rw', L, hG, hR, -, -, hS⟩ := BO.out
  have G := hid hG
  have R := hid hR
  have T1 := hid (TB.out.later B1.out)
  have M0 := hid (MS.made w1)
  have B0 : Hid (Below w1.heap.size w1 (w1.alloc (.map #[] 0))) := below_box w1 _
  have ZH : Hid ((w1.alloc (.map #[] 0)).heap.size = w1.heap.size + 1) := by show _ = _; simp
  clear hG hR hS BO DR hmm
  generalize w1.alloc (.map #[] 0) = W0 at *
  have CO := hid (comps_is b n r bk ck L labels W0 (G.out.later B0.out) (T1.out.later B0.out))
  go_at_call 11
  refine CO.out.mono ?_
  rintro e w2 ⟨⟨v2, fs, rfl, f2, c2⟩, b2'⟩
  have F2 := hid f2
  have C2 := hid c2
  have M2 := hid (M0.out.later b2')
  have B2 : Hid (Below w1.heap.size w1 w2) := B0.out.trans (b2'.mono B0.out.size)
  obtain ⟨oa, oc, hv2, _⟩ := f2.at
  subst hv2
  have hlen := c2.len
  rw [List.length_map] at hlen
  obtain ⟨nd, fl, fm⟩ := c2.flat
  have ND := hid nd
  have FL := hid fl
  have FM := hid fm
  have LL : Hid (∀ k, k < fs.length → ((fs.map Prod.fst).getD k []).length ≤ n) := fun k hk => hlen.2 _ (getD_mem (by rw [List.length_map]; exact hk))
  have hfi : (fs.length : Int) ≤ 300 := by omega
  have hfl : fs.length ≤ 300 := by omega
  have GE0 : Hid (great ((fs.map Prod.fst).take 0) = false) := by show great _ = false; simp [great]
  have MM0 : Hid (MS w2 w1.heap.size (((fs.map Prod.fst).take 0).flatten)) := by show MS _ _ _; simpa using M2.out
  have GTK := hid (great_take (fs.map Prod.fst))
  clear f2 c2 b2' hlen nd fl fm CO M0 M2 B0
  go_wp2_with fail
  go_loopg [11, 13, 15, 30] fs.length (fun g gr _ _ i wr => ∃ (k : Nat) (gb : Bool), k ≤ fs.length ∧ fs.length - k ≤ g ∧ i = .int .i64 k ∧ gr = .bool gb ∧ Aside (great ((fs.map Prod.fst).take k) = gb) ∧ Aside (MS wr w1.heap.size (((fs.map Prod.fst).take k).flatten)) ∧ Aside (Below w1.heap.size w1 wr) ∧ Aside (Fnd wr W0.heap.size (.slice oa fs.length oc) fs))
  case atStart => exact ⟨0, false, Nat.zero_le _, by omega, rfl, rfl, GE0.out, MM0.out, B2.out, F2.out⟩
  case round =>
    clear GE0 MM0 B2 F2
    obtain ⟨k, gb, hk, hg, rfl, rfl, GX, MX, BX, FX⟩ := hrel
    by_cases hkl : k < fs.length
    · have hkli : (k : Int) < fs.length := by omega
      obtain ⟨oa', oc', hv', hat⟩ := FX.out.at
      injection hv' with q1 q2 q3
      subst q1
      obtain ⟨ga, rfl, _, ckk⟩ := hat k hkl
      obtain ⟨ea, ec, he⟩ := FX.out.each k hkl
      have hm := LL.out k hkl
      have hcl : (fs.getD k ([], .slice none 0 0)).1.length = ((fs.map Prod.fst).getD k []).length := by simp [List.getD, hkl]
      rw [hcl] at he
      rw [he] at ckk
      have CELL := hid (fun wr' (h : Fnd wr' W0.heap.size (.slice (some ⟨ga, 0, none⟩) fs.length oc) fs) => (h.cellOf hkl he).2)
      have NEW := hid (fun j hj => upTo_new (k := k) (j := j) ND.out (by rw [List.length_map]; exact hkl) hj)
      have UE := hid (upTo_end (cs := fs.map Prod.fst) (k := k) (by rw [List.length_map]; exact hkl))
      have U0 : Hid (MS wr w1.heap.size (upTo (fs.map Prod.fst) k 0)) := by show MS _ _ _; rw [upTo_0]; exact MX.out
      have GT := hid (GTK.out k (by rw [List.length_map]; exact hkl))
      have FMc := hid (fun j (hj : j < ((fs.map Prod.fst).getD k []).length) => FM.out _ (NEW.out j hj).2.2.2)
      clear hat hcl he q2 q3 MX
      generalize hc0 : (fs.map Prod.fst).getD k [] = c at *
      have HC0 := hid hc0
      clear hc0
      have hci : (c.length : Int) ≤ 300 := by omega
      cases gb
      · by_cases h1 : 1 < c.length
        · have h1i : (c.length : Int) > 1 := by omega
          have GK : Hid (great ((fs.map Prod.fst).take (k + 1)) = true) := by
            show great _ = true
            rw [GT.out]
            simp [h1]
          clear GT h1 GX
          go_wp2_with fail
          go_loopg [15, 42] c.length (fun g2 _ i wr2 => ∃ j : Nat, j ≤ c.length ∧ c.length - j ≤ g2 ∧ i = .int .i64 j ∧ Aside (MS wr2 w1.heap.size (upTo (fs.map Prod.fst) k j)) ∧ Aside (Below w1.heap.size w1 wr2) ∧ Aside (Fnd wr2 W0.heap.size (.slice (some ⟨ga, 0, none⟩) fs.length oc) fs))
          case atStart => exact ⟨0, Nat.zero_le _, by omega, rfl, U0.out, BX.out, FX.out⟩
          case round =>
            clear U0 BX FX
            obtain ⟨j, hj, hg2, rfl, MY, BY, FY⟩ := hrel
            by_cases hjl : j < c.length
            · have hjli : (j : Int) < c.length := by omega
              obtain ⟨bz, oz, rfl, hcz⟩ := CELL.out wr FY.out j hjl
              obtain ⟨n1, n2, n3, _⟩ := NEW.out j hjl
              have HM3 : c.getD j 0 ≤ 300 := by have := FMc.out j hjl; omega
              have NL : Hid ((upTo (fs.map Prod.fst) k j).length ≤ 300) := by have := FL.out; show _ ≤ _; omega
              have LK := MY.out.look (c.getD j 0) HM3 n1
              have N1 := hid n1
              have N3 := hid n3
              clear n1 n2 n3
              generalize c.getD j 0 = x at *
              go_wp2_with (at_mapUpdate; refine wpList_ms _ rfl _ _ _ rfl w1.heap.size (upTo (fs.map Prod.fst) k j) rfl MY.out x rfl rfl HM3 N1.out NL.out ?_; intro w5 q1 q2; have Q1 := hid q1; have Q2 := hid (BY.out.trans (q2.below w1.heap.size (fun b hb => by omega) BY.out.size)); have Q3 := hid (FY.out.gro q2 (by have := ZH.out; omega)); clear q1 q2)
              go_roundg (c.length - (j + 1))
              · exact ⟨j + 1, by omega, by omega, by go_num, (by show MS _ _ _; rw [N3.out]; exact Q1.out), Q2.out, Q3.out⟩
              · omega
            · have hjli : ¬ (j : Int) < c.length := by omega
              have MZ : Hid (MS wr w1.heap.size ((fs.map Prod.fst).take (k + 1)).flatten) := by
                have h := MY.out
                have ej : j = c.length := by omega
                rw [ej, UE.out] at h
                exact h
              clear MY
              go_wp2_with fail
              go_roundg (fs.length - (k + 1))
              · exact ⟨k + 1, _, by omega, by omega, by go_num, rfl, GK.out, MZ.out, BY.out, FY.out⟩
              · omega
        · have h1i : ¬ (c.length : Int) > 1 := by omega
          have GK : Hid (great ((fs.map Prod.fst).take (k + 1)) = false) := by
            show great _ = false
            rw [GT.out, GX.out]
            simp [h1]
          clear GT h1 GX
          go_wp2_with fail
          go_loopg [15, 42] c.length (fun g2 _ i wr2 => ∃ j : Nat, j ≤ c.length ∧ c.length - j ≤ g2 ∧ i = .int .i64 j ∧ Aside (MS wr2 w1.heap.size (upTo (fs.map Prod.fst) k j)) ∧ Aside (Below w1.heap.size w1 wr2) ∧ Aside (Fnd wr2 W0.heap.size (.slice (some ⟨ga, 0, none⟩) fs.length oc) fs))
          case atStart => exact ⟨0, Nat.zero_le _, by omega, rfl, U0.out, BX.out, FX.out⟩
          case round =>
            clear U0 BX FX
            obtain ⟨j, hj, hg2, rfl, MY, BY, FY⟩ := hrel
            by_cases hjl : j < c.length
            · have hjli : (j : Int) < c.length := by omega
              obtain ⟨bz, oz, rfl, hcz⟩ := CELL.out wr FY.out j hjl
              obtain ⟨n1, n2, n3, _⟩ := NEW.out j hjl
              have HM3 : c.getD j 0 ≤ 300 := by have := FMc.out j hjl; omega
              have NL : Hid ((upTo (fs.map Prod.fst) k j).length ≤ 300) := by have := FL.out; show _ ≤ _; omega
              have LK := MY.out.look (c.getD j 0) HM3 n1
              have N1 := hid n1
              have N3 := hid n3
              clear n1 n2 n3
              generalize c.getD j 0 = x at *
              go_wp2_with (at_mapUpdate; refine wpList_ms _ rfl _ _ _ rfl w1.heap.size (upTo (fs.map Prod.fst) k j) rfl MY.out x rfl rfl HM3 N1.out NL.out ?_; intro w5 q1 q2; have Q1 := hid q1; have Q2 := hid (BY.out.trans (q2.below w1.heap.size (fun b hb => by omega) BY.out.size)); have Q3 := hid (FY.out.gro q2 (by have := ZH.out; omega)); clear q1 q2)
              go_roundg (c.length - (j + 1))
              · exact ⟨j + 1, by omega, by omega, by go_num, (by show MS _ _ _; rw [N3.out]; exact Q1.out), Q2.out, Q3.out⟩
              · omega
            · have hjli : ¬ (j : Int) < c.length := by omega
              have MZ : Hid (MS wr w1.heap.size ((fs.map Prod.fst).take (k + 1)).flatten) := by
                have h := MY.out
                have ej : j = c.length := by omega
                rw [ej, UE.out] at h
                exact h
              clear MY
              go_wp2_with fail
              go_roundg (fs.length - (k + 1))
              · exact ⟨k + 1, _, by omega, by omega, by go_num, rfl, GK.out, MZ.out, BY.out, FY.out⟩
              · omega
      · have GK : Hid (great ((fs.map Prod.fst).take (k + 1)) = true) := by
          show great _ = true
          rw [GT.out, GX.out]
          rfl
        clear GT GX
        go_wp2_with fail
        go_loopg [15, 42] c.length (fun g2 _ i wr2 => ∃ j : Nat, j ≤ c.length ∧ c.length - j ≤ g2 ∧ i = .int .i64 j ∧ Aside (MS wr2 w1.heap.size (upTo (fs.map Prod.fst) k j)) ∧ Aside (Below w1.heap.size w1 wr2) ∧ Aside (Fnd wr2 W0.heap.size (.slice (some ⟨ga, 0, none⟩) fs.length oc) fs))
        case atStart => exact ⟨0, Nat.zero_le _, by omega, rfl, U0.out, BX.out, FX.out⟩
        case round =>
          clear U0 BX FX
          obtain ⟨j, hj, hg2, rfl, MY, BY, FY⟩ := hrel
          by_cases hjl : j < c.length
          · have hjli : (j : Int) < c.length := by omega
            obtain ⟨bz, oz, rfl, hcz⟩ := CELL.out wr FY.out j hjl
            obtain ⟨n1, n2, n3, _⟩ := NEW.out j hjl
            have HM3 : c.getD j 0 ≤ 300 := by have := FMc.out j hjl; omega
            have NL : Hid ((upTo (fs.map Prod.fst) k j).length ≤ 300) := by have := FL.out; show _ ≤ _; omega
            have LK := MY.out.look (c.getD j 0) HM3 n1
            have N1 := hid n1
            have N3 := hid n3
            clear n1 n2 n3
            generalize c.getD j 0 = x at *
            go_wp2_with (at_mapUpdate; refine wpList_ms _ rfl _ _ _ rfl w1.heap.size (upTo (fs.map Prod.fst) k j) rfl MY.out x rfl rfl HM3 N1.out NL.out ?_; intro w5 q1 q2; have Q1 := hid q1; have Q2 := hid (BY.out.trans (q2.below w1.heap.size (fun b hb => by omega) BY.out.size)); have Q3 := hid (FY.out.gro q2 (by have := ZH.out; omega)); clear q1 q2)
            go_roundg (c.length - (j + 1))
            · exact ⟨j + 1, by omega, by omega, by go_num, (by show MS _ _ _; rw [N3.out]; exact Q1.out), Q2.out, Q3.out⟩
            · omega
          · have hjli : ¬ (j : Int) < c.length := by omega
            have MZ : Hid (MS wr w1.heap.size ((fs.map Prod.fst).take (k + 1)).flatten) := by
              have h := MY.out
              have ej : j = c.length := by omega
              rw [ej, UE.out] at h
              exact h
            clear MY
            go_wp2_with fail
            go_roundg (fs.length - (k + 1))
            · exact ⟨k + 1, _, by omega, by omega, by go_num, rfl, GK.out, MZ.out, BY.out, FY.out⟩
            · omega
    · have hkli : ¬ (k : Int) < fs.length := by omega
      have GE : Hid (great (fs.map Prod.fst) = gb) := by
        have := GX.out
        rwa [List.take_of_length_le (by rw [List.length_map]; omega)] at this
      have ME : Hid (MS wr w1.heap.size (fs.map Prod.fst).flatten) := by
        have := MX.out
        rwa [List.take_of_length_le (by rw [List.length_map]; omega)] at this
      clear GX MX
      have RY := hid (R.out.later BX.out)
      obtain ⟨ga2, gc2, hgv2, -⟩ := RY.out.form
      have c2 := RY.out.c0
      rw [hgv2] at c2
      have ml : ∀ ty, (Builtin.len_ #[38] ty #[.map (some w1.heap.size)]).run Tryd.prog wr.drew = .ok (.int .i64 n) wr.drew := fun ty => by
        have := (ME.out.later (Below.refl wr.heap.size wr).drew).len ty
        rw [FL.out] at this
        exact this
      have c3 : wr.drew.cell? ⟨b2, 0, none⟩ = some (.slice ga2 n gc2) := c2
      have BD : Hid (Below w1.heap.size w1 wr.drew) := BX.out.drew
      have CY := hid (cyclic_is b n r bk ck L labels wr.drew (G.out.later BD.out) (T1.out.later BD.out))
      clear hgv2
      go_wp2_with fail
      go_region_with (go_at_call 16; refine CY.out.mono ?_; rintro e w6 ⟨⟨cs, rfl, hc⟩, b6⟩; rw [← C2.out.uniq hc, GE.out]; have B6 : Hid (Below w.heap.size w w6) := B1.out.trans ((BD.out.trans (b6.mono BD.out.size)).mono B1.out.size); clear hc b6)
      all_goals (try go_wp2_with fail)
      all_goals
        go_ret
        exact ⟨rfl, B6.out⟩
end Go.Proofs.YtjgmkigfpjmlaaaDoor
