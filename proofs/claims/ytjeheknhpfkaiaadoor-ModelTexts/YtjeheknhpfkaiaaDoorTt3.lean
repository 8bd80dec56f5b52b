/-
  The text of a state.
-/
import Derived.Test.YtjeheknhpfkaiaaDoorTt2
namespace Go.Proofs.YtjeheknhpfkaiaaDoor
set_option linter.unusedVariables false
set_option linter.unusedSimpArgs false
open Go.RowKit Go.Lib Go.Maps Go.Sort

/-- A row of keys, in a block that is not b. -/
def KR (b : Nat) (w : World) (a : Option Addr) (ks : List Bs) : Prop := ∀ j, j < ks.length → ∃ g cs fr, a = some ⟨g, 0, none⟩ ∧ g ≠ b ∧ w.heap[g]? = some (.cells cs 9 fr) ∧ w.cell? ⟨g, j, none⟩ = some (.string (ba (ks.getD j default)))
theorem KR.kept {b : Nat} {w w' : World} {a : Option Addr} {ks : List Bs} (h : KR b w a ks) (hk : Lib.OthersKept 5 (some b) w w') : KR b w' a ks := fun j hj => by
  obtain ⟨g, cs, fr, ha, hg, hh, hc⟩ := h j hj
  have hh' := hk g _ hh (fun e => hg (by injection e)) (fun c fz e => by injection e with _ e; exact absurd e (by decide))
  exact ⟨g, cs, fr, ha, hg, hh', (World.cell?_of_block (a := ⟨g, j, none⟩) (hh'.trans hh.symm)).trans hc⟩
theorem take_at {xs : List Value} {cur : Array Value} {n j : Nat} {v : Value} (h : cur.toList.take n = xs) (hv : xs[j]? = some v) : cur[j]? = some v := by
  rw [← h, List.getElem?_take] at hv
  split at hv
  · rw [← Array.getElem?_toList]
    exact hv
  · cases hv
theorem KR.of {C b : Nat} {w : World} {v : Value} {ks : List Bs} (h : w.ownsRow C 9 1 v ks.length (ks.map encStr)) (hb : b < C) : ∃ a c, v = .slice a ks.length c ∧ KR b w a ks := by
  obtain ⟨a, c, hv⟩ := own_slice h
  refine ⟨a, c, hv, fun j hj => ?_⟩
  rcases h.2 with ⟨_, hn⟩ | ⟨g, cap, cur, hv2, hg, hh, hr1, hr2, hr3, hr4⟩
  · omega
  · rw [hv] at hv2
    injection hv2 with e1 e2 e3
    refine ⟨g, cur, (0, 0), e1, by omega, hh, ?_⟩
    rw [Lib.cell_of_heap hh j]
    refine take_at hr4 ?_
    rw [List.getElem?_map, List.getElem?_eq_getElem hj]
    simp [encStr, ba, List.getD, List.getElem?_eq_getElem hj]
theorem VaIn.of {C b : Nat} {w : World} {a : Option Addr} {c : Nat} {vs : List Int} (h : w.ownsRow C 3 1 (.slice a vs.length c) vs.length (vs.map (Value.int .i64))) (hb : ∀ g, (Value.slice a vs.length c).ownBlock = some g → g ≠ b) : VaIn b w a vs := fun j hj => by
  rcases h.2 with ⟨_, hn⟩ | ⟨g, cap, cur, hv2, hg, hh, hr1, hr2, hr3, hr4⟩
  · omega
  · injection hv2 with e1 e2 e3
    refine ⟨g, 0, cur, (0, 0), e1, hb g (by rw [e1]; rfl), hh, ?_⟩
    rw [Nat.zero_add, Lib.cell_of_heap hh j]
    refine take_at hr4 ?_
    rw [List.getElem?_map, List.getElem?_eq_getElem hj]
    simp [List.getD, List.getElem?_eq_getElem hj]
theorem costs_len (L : List MOp) : 60 * L.length ≤ costs L := by
  induction L with
  | nil => simp [costs]
  | cons o L ih =>
    unfold costs at *
    simp only [List.map_cons, List.sum_cons, List.length_cons]
    omega
theorem linesL_take (L : ByteArray → List Int) {ks : List Bs} {k : Nat} (h : k < ks.length) : itemsM (linesL L (ks.take (k + 1))) = itemsM (linesL L (ks.take k)) ++ lineM kdL (ks.getD k default) (L (ba (ks.getD k default))) := by
  unfold linesL
  rw [List.take_succ_eq_append_getElem h, List.map_append, items_append]
  congr 1
  simp [itemsM, List.getD, List.getElem?_eq_getElem h]
theorem linesR_take (R : ByteArray → Option Int) {ks : List Bs} {k : Nat} (h : k < ks.length) : itemsM (linesR R (ks.take (k + 1))) = itemsM (linesR R (ks.take k)) ++ lineM kdR (ks.getD k default) [rgV (R (ba (ks.getD k default)))] := by
  unfold linesR
  rw [List.take_succ_eq_append_getElem h, List.map_append, items_append]
  congr 1
  simp [itemsM, List.getD, List.getElem?_eq_getElem h]
theorem items_take (l : List Item) (k : Nat) : (itemsM (l.take k)).length ≤ (itemsM l).length := by
  conv => rhs; rw [← List.take_append_drop k l]
  rw [items_append, List.length_append]
  omega
theorem linesL_le (L : ByteArray → List Int) (ks : List Bs) (k : Nat) : (itemsM (linesL L (ks.take k))).length ≤ (itemsM (linesL L ks)).length := by
  have := items_take (linesL L ks) k
  unfold linesL at *
  rw [← List.map_take] at this
  exact this
theorem linesR_le (R : ByteArray → Option Int) (ks : List Bs) (k : Nat) : (itemsM (linesR R (ks.take k))).length ≤ (itemsM (linesR R ks)).length := by
  have := items_take (linesR R ks) k
  unfold linesR at *
  rw [← List.map_take] at this
  exact this
theorem Wr.refl {B b : Nat} {w wr : World} {bs : Bs} (h : Wr B b w wr bs) : Wr B b wr wr bs := ⟨h.bu, Below.refl _ _, Lib.OthersKept.refl _ _ _⟩
theorem Wr.trans {B b : Nat} {w wr W : World} {bs bs' : Bs} (h : Wr B b w wr bs) (k : Wr B b wr W bs') : Wr B b w W bs' := ⟨k.bu, h.be.trans k.be, h.ok.trans k.ok⟩
theorem later_ok {b : Nat} {w W : World} (hb : Below w.heap.size w W) : Lib.OthersKept 5 (some b) w W := fun k o hk _ _ => (hb.block k (blt hk)).trans hk
theorem mem_get {ks : List Bs} {k : Nat} (h : k < ks.length) : ks.getD k default ∈ ks := by
  simp [List.getD, List.getElem?_eq_getElem h]
set_option maxHeartbeats 4000000 in
set_option maxRecDepth 100000 in
theorem text_is (B : Nat) (w : World) (sb lb rb : Nat) (F : Nat → Prop) (n : Nat) (L : List MOp) (h : St B w sb lb rb F n L) (hv : OkV L) (hc : costs L ≤ 140737488355328) (hn : n ≤ 8796093022208) (ht : Lib.TabIs Tryd.prog w "internal/strconv.uint64pow10" .u64 Lib.pow10Tab) :
    Calls Tryd.prog 6 #[.pointer (some ⟨sb, 0, none⟩)] w fun e w' => ∃ ks rs, IsText (lstM L) (regM L) ks rs ∧ e = .returned (.string (ba (txtM (lstM L) (regM L) ks rs))) ∧ Below w.heap.size w w' := by
  obtain ⟨S, fl, fr, ks, rs, hS, hfl, hfr, hkl, hkr, hml, hmr, hIT, hksn, hrsn⟩ := h.texts hv
  have hlenT := txt_len hv hIT
  have HLT : Hid ((itemsM (linesL (lstM L) ks)).length + (itemsM (linesR (regM L) rs)).length ≤ 140737488355328) := by
    unfold txtM at hlenT
    rw [items_append, List.length_append] at hlenT
    exact Nat.le_trans hlenT hc
  have hcl := costs_len L
  have HLL : Hid (∀ s, (lstM L s).length ≤ 17592186044416) := fun s => by have := lst_len L s; omega
  have HTB : Hid (Pow w.heap.size w) := Lib.tabBelow_of_tabIs ht
  have c0 := h.c0
  have c1 := h.c1
  have H := hid h
  have HV := hid hv
  have HS := hid hS
  have HFL := hid hfl
  have HFR := hid hfr
  have HKL := hid hkl
  have HKR := hid hkr
  have HML := hid hml
  have HMR := hid hmr
  have HIT := hid hIT
  clear h hv hS hfl hfr hkl hkr hml hmr hIT hlenT hc hcl ht
  have hsb := World.block_lt_of_cell? _ _ c0
  have hlbl : lb < w.heap.size := HML.out.lt
  have hrbl : rb < w.heap.size := HMR.out.lt
  go_enter Tryd.func6, Tryd.ntmps6
  obtain ⟨w1, hw1⟩ : ∃ w1, w.alloc (.cells #[.pointer none, .slice none 0 0] 40) = w1 := ⟨_, rfl⟩
  have B1 : Hid (Below w.heap.size w w1) := by rw [← hw1]; exact below_box w _
  have Z1 : w1.heap.size = w.heap.size + 1 := by rw [← hw1]; exact alloc_size _ _
  have W1 : Hid (Wr w.heap.size w.heap.size w w1 []) := by
    refine ⟨.of ?_, B1.out, later_ok B1.out⟩
    rw [← hw1]
    exact Lib.fresh_isBuilder 40 5 w
  have d0 : w1.cell? ⟨sb, 0, none⟩ = some (.map (some lb)) := (World.cell?_of_block (a := ⟨sb, 0, none⟩) (B1.out.block sb hsb)).trans c0
  go_wp2_with (first
    | (go_at_call 12; refine (isMade_yes _ _ _ c0).mono ?_; rintro e w' ⟨rfl, rfl⟩)
    | (go_at_call 14; refine (keysL_c _ _).mono ?_; rintro e w' ⟨rfl, rfl⟩)
    | (go_at_call 13
       refine (sortedL_c lb n fl ks w1 _ Z1 (HKL.out.same (B1.out.block lb hlbl)) hn).mono ?_
       rintro e w3 ⟨v, rfl, hrow, hb3⟩
       obtain ⟨ka, kc, rfl, hkr1⟩ := KR.of (b := w.heap.size) hrow (by omega)
       have HK := hid hkr1
       have W3 : Hid (Wr w.heap.size w.heap.size w w3 []) := (W1.out.later (below_box w1 _)).later (by rw [alloc_size, Z1]; exact hb3)
       clear hrow hb3 hkr1))
  go_loopg [18] ks.length (fun g i wr => ∃ k : Nat, k ≤ ks.length ∧ ks.length - k ≤ g ∧ i = .int .i64 k ∧ Aside (Wr w.heap.size w.heap.size w wr (itemsM (linesL (lstM L) (ks.take k)))) ∧ Aside (KR w.heap.size wr ka ks))
  case atStart => exact ⟨0, Nat.zero_le _, by omega, rfl, W3.out, HK.out⟩
  case round =>
    obtain ⟨k, hk, hg, rfl, WR, KA⟩ := hrel
    have hBr := WR.out.be
    have e0 : wr.cell? ⟨sb, 0, none⟩ = some (.map (some lb)) := (World.cell?_of_block (a := ⟨sb, 0, none⟩) (hBr.block sb hsb)).trans c0
    have e1 : wr.cell? ⟨sb, 1, none⟩ = some (.map (some rb)) := (World.cell?_of_block (a := ⟨sb, 1, none⟩) (hBr.block sb hsb)).trans c1
    have BR := hid hBr
    clear hBr
    by_cases hlt : k < ks.length
    · have hlti : (k : Int) < ks.length := by omega
      obtain ⟨g, cs, fz, rfl, hgb, hh, hcell⟩ := KA.out k hlt
      have HTK : Hid (itemsM (linesL (lstM L) (ks.take (k + 1))) = itemsM (linesL (lstM L) (ks.take k)) ++ lineM kdL (ks.getD k default) (lstM L (ba (ks.getD k default)))) := linesL_take _ hlt
      have hmem := mem_get hlt
      obtain ⟨K, hK⟩ : ∃ K, ks.getD k default = K := ⟨_, rfl⟩
      rw [hK] at hcell hmem HTK
      clear hK
      have hne := (HIT.out.ml K).1 hmem
      have hks := lst_key HV.out _ hne
      have q := (HML.out.same (BR.out.block lb hlbl)).look keys9 Tryd.underlying46 (zeroL wr) (key9 (ba K) (by unfold maxLen; omega))
      rw [HFL.out, if_neg hne] at q
      have own := own_same (HS.out.own (ba K)) (fun g hg => BR.out.block g (H.out.flt g (HS.out.foot (ba K) g hg)).2)
      have hoB : ∀ g, (S (ba K)).ownBlock = some g → g ≠ w.heap.size := fun g hg => by have := (H.out.flt g (HS.out.foot (ba K) g hg)).2; omega
      obtain ⟨la, lc, hSv⟩ := own_slice own
      rw [hSv] at own hoB q
      have VA : Hid (VaIn w.heap.size wr la (lstM L (ba K))) := VaIn.of own hoB
      have hvs := lst_vals HV.out (ba K)
      have HVS := hid hvs
      have hln := HLL.out (ba K)
      have HKB : Hid ((ba K).data.toList = K) := by show _ = _; simp [ba]
      have HLE : Hid ((itemsM (linesL (lstM L) (ks.take k)) ++ lineM (⟨#[108, 105, 115, 116]⟩ : ByteArray).data.toList (ba K).data.toList (lstM L (ba K))).length ≤ 140737488355328) := by
        show _ ≤ _
        rw [HKB.out]
        have h1 := linesL_le (lstM L) ks (k + 1)
        have h2 := HLT.out
        rw [HTK.out] at h1
        exact Nat.le_trans h1 (by omega)
      clear hh own hoB hvs hmem hne hSv
      simp only [Option.getD_some] at q
      go_wp2_with (go_at_call 15
                   refine (line_is w.heap.size w.heap.size wr (itemsM (linesL (lstM L) (ks.take k))) _ (ba K) la lc (lstM L (ba K)) wr WR.out.refl (HTB.out.on BR.out) VA.out (by decide) hks HVS.out hln HLE.out).mono ?_
                   rintro e W4 ⟨rfl, hW4⟩
                   have H4 := hid hW4
                   clear hW4)
      go_roundg (ks.length - (k + 1))
      case measure => omega
      case rel =>
        refine ⟨k + 1, by omega, by omega, by go_num, ?_, KA.out.kept H4.out.ok⟩
        have q4 := WR.out.trans H4.out
        rw [HKB.out] at q4
        show Wr _ _ _ _ _
        rw [HTK.out]
        exact q4
    · obtain rfl : k = ks.length := by omega
      have WRT : Hid (Wr w.heap.size w.heap.size w wr (itemsM (linesL (lstM L) ks))) := by
        have q := WR.out
        rw [List.take_of_length_le (Nat.le_refl _)] at q
        exact q
      clear WR KA HK W3
      have HBRo := BR
      have hlow := WRT.out.low
      go_wp2_with (first
        | (go_at_call 16; refine (keysR_c _ _).mono ?_; rintro e w' ⟨rfl, rfl⟩)
        | (go_at_call 13
           refine (sortedR_c rb n fr rs wr _ rfl (HKR.out.same (BR.out.block rb hrbl)) hn).mono ?_
           rintro e w5 ⟨v, rfl, hrow, hb5⟩
           obtain ⟨ra, rc, rfl, hkr5⟩ := KR.of (b := w.heap.size) hrow (by omega)
           have HK5 := hid hkr5
           have W5 : Hid (Wr w.heap.size w.heap.size w w5 (itemsM (linesL (lstM L) ks))) := (WRT.out.later (below_box wr _)).later (by rw [alloc_size]; exact hb5)
           clear hrow hb5 hkr5))
      go_loopg [38] rs.length (fun g i wr => ∃ k : Nat, k ≤ rs.length ∧ rs.length - k ≤ g ∧ i = .int .i64 k ∧ Aside (Wr w.heap.size w.heap.size w wr (itemsM (linesL (lstM L) ks) ++ itemsM (linesR (regM L) (rs.take k)))) ∧ Aside (KR w.heap.size wr ra rs))
      case atStart =>
        refine ⟨0, Nat.zero_le _, by omega, rfl, ?_, HK5.out⟩
        have e : itemsM (linesL (lstM L) ks) ++ itemsM (linesR (regM L) (rs.take 0)) = itemsM (linesL (lstM L) ks) := by simp [linesR, itemsM]
        rw [e]
        exact W5.out
      case round =>
        obtain ⟨k, hk, hg, rfl, WR, KA⟩ := hrel
        have hBr := WR.out.be
        have e1 : wr.cell? ⟨sb, 1, none⟩ = some (.map (some rb)) := (World.cell?_of_block (a := ⟨sb, 1, none⟩) (hBr.block sb hsb)).trans c1
        have BR := hid hBr
        clear hBr
        by_cases hlt : k < rs.length
        · have hlti : (k : Int) < rs.length := by omega
          obtain ⟨g, cs, fz, rfl, hgb, hh, hcell⟩ := KA.out k hlt
          have HTK : Hid (itemsM (linesR (regM L) (rs.take (k + 1))) = itemsM (linesR (regM L) (rs.take k)) ++ lineM kdR (rs.getD k default) [rgV (regM L (ba (rs.getD k default)))]) := linesR_take _ hlt
          have hmem := mem_get hlt
          obtain ⟨K, hK⟩ : ∃ K, rs.getD k default = K := ⟨_, rfl⟩
          rw [hK] at hcell hmem HTK
          clear hK
          have hne := (HIT.out.mr K).1 hmem
          have hks := reg_key HV.out _ hne
          have q := (HMR.out.same (BR.out.block rb hrbl)).look keys9 Tryd.underlying48 (zeroR wr) (key9 (ba K) (by unfold maxLen; omega))
          have hval := reg_val HV.out (ba K)
          obtain ⟨x, hx⟩ : ∃ x, regM L (ba K) = some x := by
            cases e : regM L (ba K) with
            | none => exact absurd e hne
            | some x => exact ⟨x, rfl⟩
          rw [HFR.out, hx] at q
          rw [hx] at HTK hval
          simp only [rgV, Option.getD_some] at HTK hval
          have HVS : Hid (∀ v ∈ [x], -9223372036854775808 ≤ v ∧ v ≤ 9223372036854775807) := fun v hv => by
            obtain rfl : v = x := by simpa using hv
            exact hval
          have HKB : Hid ((ba K).data.toList = K) := by show _ = _; simp [ba]
          have HLE : Hid ((itemsM (linesL (lstM L) ks) ++ itemsM (linesR (regM L) (rs.take k)) ++ lineM (⟨#[114, 101, 103, 105, 115, 116, 101, 114]⟩ : ByteArray).data.toList (ba K).data.toList [x]).length ≤ 140737488355328) := by
            show _ ≤ _
            rw [HKB.out]
            have h1 := linesR_le (regM L) rs (k + 1)
            have h2 := HLT.out
            rw [HTK.out] at h1
            have e : (⟨#[114, 101, 103, 105, 115, 116, 101, 114]⟩ : ByteArray).data.toList = kdR := rfl
            rw [e]
            simp only [List.length_append] at h1 ⊢
            omega
          have WA : Hid (∀ o, Wr w.heap.size w.heap.size w (wr.alloc o) (itemsM (linesL (lstM L) ks) ++ itemsM (linesR (regM L) (rs.take k)))) := fun o => WR.out.later (below_box wr o)
          have hlow := WR.out.low
          have hlw : wr.heap.size ≠ w.heap.size := fun e => by
            rcases WR.out.bu with z | z
            · have z1 := z.1
              obtain ⟨_, v, hbk, _⟩ := z
              have := blt hbk
              omega
            · obtain ⟨_, v, hbk, _⟩ := z
              have := blt hbk
              omega
          have VA : Hid (VaIn w.heap.size (wr.alloc (.cells #[.int .i64 x] 3)) (some ⟨wr.heap.size, 0, none⟩) [x]) := fun j hj => by
            have hj0 : j = 0 := by simp at hj; exact hj
            subst hj0
            have hb : (wr.alloc (.cells #[.int .i64 x] 3)).heap[wr.heap.size]? = some (.cells #[.int .i64 x] 3 (0, 0)) := by rw [alloc_at, if_pos rfl]
            exact ⟨wr.heap.size, 0, #[.int .i64 x], (0, 0), rfl, hlw, hb, Lib.cell_of_heap hb 0⟩
          have HLW := hid hlw
          have hfd : (Instr.field 54 (.agg #[.int .i64 x, .bool true]) 0).run Tryd.prog wr = .ok (.int .i64 x) wr := by kernel_rfl
          clear hh hval hmem hne hx hlw
          simp only [Option.map_some, Option.getD_some] at q
          go_wp2_with (go_at_call 15
                       refine (line_is w.heap.size w.heap.size (wr.alloc (.cells #[.int .i64 x] 3)) (itemsM (linesL (lstM L) ks) ++ itemsM (linesR (regM L) (rs.take k))) _ (ba K) (some ⟨wr.heap.size, 0, none⟩) 1 [x] (wr.alloc (.cells #[.int .i64 x] 3)) (WA.out _).refl (HTB.out.on (WA.out _).be) VA.out (by decide) hks HVS.out (by simp) HLE.out).mono ?_
                       rintro e W6 ⟨rfl, hW6⟩
                       have H6 := hid hW6
                       clear hW6)
          go_roundg (rs.length - (k + 1))
          case measure => omega
          case rel =>
            refine ⟨k + 1, by omega, by omega, by go_num, ?_, (KA.out.kept (later_ok (below_box wr _))).kept H6.out.ok⟩
            have q6 := (WA.out _).trans H6.out
            rw [HKB.out] at q6
            show Wr _ _ _ _ _
            rw [HTK.out, ← List.append_assoc]
            exact q6
        · obtain rfl : k = rs.length := by omega
          have WRS : Hid (Wr w.heap.size w.heap.size w wr (txtM (lstM L) (regM L) ks rs)) := by
            have q := WR.out
            rw [List.take_of_length_le (Nat.le_refl _)] at q
            unfold txtM
            rw [items_append]
            exact q
          go_wp2_with (go_at_call 17
                       refine (Tryd.Builder_String_any_k w.heap.size w.heap.size (txtM (lstM L) (regM L) ks rs) wr WRS.out.bu WRS.out.low).mono ?_
                       rintro e W7 ⟨rfl, _, hb7, _⟩
                       have B7 := hid hb7
                       clear hb7)
          go_ret
          exact ⟨ks, rs, HIT.out, rfl, WRS.out.be.trans B7.out⟩
end Go.Proofs.YtjeheknhpfkaiaaDoor
