/-
  The law ModelFills.
-/
import Derived.Test.YtjmjjjehdgcnhabM7
import Derived.Test.YtjmjjjehdgcnhabCn
namespace Go.Proofs.Ytjmjjjehdgcnhab
set_option linter.unusedVariables false
set_option linter.unusedSimpArgs false
open Go.RowKit Go.Lib Go.Maps

/-- The key. -/
def kx : ByteArray := ⟨#[120]⟩
def apO (v : Int) : MOp := (1, ⟨#[120]⟩, v, [], false, false)
def wrO (v : Int) : MOp := (3, ⟨#[120]⟩, v, [], false, false)
/-- What was written. -/
def fillL (xs : List Int) : List MOp := xs.flatMap fun v => [apO v, wrO v]
theorem fill_snoc (xs : List Int) (v : Int) : fillL (xs ++ [v]) = fillL xs ++ [apO v, wrO v] := by
  unfold fillL
  rw [List.flatMap_append]
  simp
theorem fill_st (L : List MOp) (v : Int) : stM L [apO v, wrO v] 2 = L ++ [apO v, wrO v] := by
  unfold stM
  rfl
theorem lst_pair (L : List MOp) (v : Int) : lstM (L ++ [apO v, wrO v]) kx = lstM L kx ++ [v] := by
  have e : L ++ [apO v, wrO v] = (L ++ [apO v]) ++ [wrO v] := by simp
  rw [e, lst_snoc, if_neg (by rintro ⟨h, _⟩; cases h), lst_snoc, if_pos ⟨rfl, rfl⟩]
  rfl
theorem reg_pair (L : List MOp) (v : Int) : regM (L ++ [apO v, wrO v]) kx = some v := by
  have e : L ++ [apO v, wrO v] = (L ++ [apO v]) ++ [wrO v] := by simp
  rw [e, reg_snoc, if_pos ⟨rfl, rfl⟩]
  rfl
theorem lst_fill (xs : List Int) : lstM (fillL xs) kx = xs := by
  induction xs with
  | nil => rfl
  | cons v r ih =>
    show lstM (apO v :: wrO v :: fillL r) kx = v :: r
    have h1 : apB kx (apO v) = true := by simp [apB, apO, kx]
    have h2 : apB kx (wrO v) = false := decide_eq_false (fun c => absurd c.1 (by show ¬ (3 : Int) = 1; decide))
    unfold lstM at ih ⊢
    rw [List.filter_cons, if_pos h1, List.filter_cons, if_neg (by rw [h2]; decide), List.map_cons, ih]
    rfl
theorem ints_nil (S : Nat → Prop) (W : World) : IntsIn S W (.slice none 0 0) [] := ⟨none, 0, rfl, ⟨by simp, Nat.le_refl _⟩, fun h => absurd h (Nat.lt_irrefl _)⟩
theorem ops_lit1 {S : Nat → Prop} {W : World} {g : Nat} {o : MOp} {lv : Value} (hg : W.heap[g]? = some (.cells #[.int .i64 o.kind, .string o.key, .int .i64 o.value, lv, .bool o.has, .bool o.nl] 32 (0, 0))) (hS : S g) (hl : IntsIn S W lv o.list) : OpsIn S W (.slice (some ⟨g, 0, none⟩) 1 1) [o] := by
  refine ⟨_, 1, rfl, ⟨by simp, Nat.le_refl _⟩, fun _ => ⟨g, 0, rfl, hS, fun j hj => ?_⟩⟩
  have hj0 : j = 0 := by simp at hj; omega
  subst hj0
  refine ⟨[.int .i64 o.kind, .string o.key, .int .i64 o.value, lv, .bool o.has, .bool o.nl], rfl, ⟨lv, rfl, hl⟩, fun i u hi => ?_⟩
  rw [Nat.zero_mul, Nat.add_zero, Nat.zero_add, cell_of_heap hg i]
  have hi6 : i < 6 := (List.getElem?_eq_some_iff.1 hi).1
  rw [← hi]
  match i, hi6 with
  | 0, _ | 1, _ | 2, _ | 3, _ | 4, _ | 5, _ => rfl
theorem ops_lit2 {S : Nat → Prop} {W : World} {g : Nat} {o p : MOp} {lv lw : Value} (hg : W.heap[g]? = some (.cells #[.int .i64 o.kind, .string o.key, .int .i64 o.value, lv, .bool o.has, .bool o.nl, .int .i64 p.kind, .string p.key, .int .i64 p.value, lw, .bool p.has, .bool p.nl] 32 (0, 0))) (hS : S g) (hl : IntsIn S W lv o.list) (hw : IntsIn S W lw p.list) : OpsIn S W (.slice (some ⟨g, 0, none⟩) 2 2) [o, p] := by
  refine ⟨_, 2, rfl, ⟨by simp, Nat.le_refl _⟩, fun _ => ⟨g, 0, rfl, hS, fun j hj => ?_⟩⟩
  have hj2 : j = 0 ∨ j = 1 := by simp at hj; omega
  rcases hj2 with rfl | rfl
  · refine ⟨[.int .i64 o.kind, .string o.key, .int .i64 o.value, lv, .bool o.has, .bool o.nl], rfl, ⟨lv, rfl, hl⟩, fun i u hi => ?_⟩
    rw [Nat.zero_mul, Nat.add_zero, Nat.zero_add, cell_of_heap hg i]
    have hi6 : i < 6 := (List.getElem?_eq_some_iff.1 hi).1
    rw [← hi]
    match i, hi6 with
    | 0, _ | 1, _ | 2, _ | 3, _ | 4, _ | 5, _ => rfl
  · refine ⟨[.int .i64 p.kind, .string p.key, .int .i64 p.value, lw, .bool p.has, .bool p.nl], rfl, ⟨lw, rfl, hw⟩, fun i u hi => ?_⟩
    rw [Nat.zero_add, Nat.one_mul, cell_of_heap hg (6 + i)]
    have hi6 : i < 6 := (List.getElem?_eq_some_iff.1 hi).1
    rw [← hi]
    match i, hi6 with
    | 0, _ | 1, _ | 2, _ | 3, _ | 4, _ | 5, _ => rfl
theorem ok_pair (L : List MOp) (v : Int) : okM L [apO v, wrO v] false := fun i hi => .inr (by
  have : i = 0 ∨ i = 1 := by simp at hi; omega
  rcases this with rfl | rfl <;> rfl)
theorem ok_same {b : Bool} {L l : List MOp} {t : Bool} (h : b = true ↔ okM L l t) (ho : okM L l t) : b = true := h.2 ho
theorem own_intsS {B : Nat} {S : Nat → Prop} {w : World} {v : Value} {l : List Int} (h : w.ownsRow B 3 1 v l.length (l.map (Value.int .i64))) (hb : l.length * 8 ≤ 140737488355328) (hS : ∀ g, v.ownBlock = some g → S g) : IntsIn S w v l := by
  rcases h.2 with ⟨hv, hn⟩ | ⟨g, cap, cur, hv, hB, hh, h1, h2, h3⟩
  · exact ⟨none, 0, by rw [hv, hn], ⟨hb, by omega⟩, fun h0 => by omega⟩
  · refine ⟨_, cap, hv, ⟨hb, h1⟩, fun h0 => ⟨g, 0, rfl, hS g (by rw [hv]; rfl), fun j hj => ?_⟩⟩
    subst hv
    rw [Nat.zero_add, World.ownsRow.cellAt h j (by omega)]
    simp [List.getD, hj]
theorem fits_one {xs : List Int} {M : Nat} (h : xs.length ≤ M) (L : List MOp) (hL : L = fillL xs) (l : List MOp) (hl : ∀ o ∈ l, o.key = kx) (i : Nat) (hi : i < l.length) (hst : (lstM (stM L l i) kx).length ≤ M) : (lstM (stM L l i) (l.getD i default).key).length ≤ M := by
  rw [hl _ (by simp [List.getD, List.getElem?_eq_getElem hi])]
  exact hst
set_option maxHeartbeats 4000000 in
set_option maxRecDepth 100000 in
theorem fills_walk (v : Value) (l : List Int) (other : Int) (w : World) (h : IntsIn Any w v l) (hl8 : l.length * 8 ≤ 140737488351232) :
    Calls Try.prog 4 #[v, .int .i64 other] w fun e w' => e = .returned (.bool true) ∧ Below w.heap.size w w' := by
  obtain ⟨i0, hi0, hz0, hz1, hz2⟩ := info_parts Try.infoInt
  have HI0 := hid hi0
  have HZ0 := hid hz0
  have HZ1 := hid hz1
  have HZ2 := hid hz2
  have hcells := h.cells
  obtain ⟨ao, c, rfl, ⟨hby, hcap⟩, hc⟩ := hcells
  have HV := hid h
  have HC := hid hc
  have hlen : (l.length : Int) ≤ 17592186043904 := by omega
  clear h hc hi0 hz0 hz1 hz2
  go_enter Try.func4, Try.ntmps4
  go_wp2_with (go_at_call 10; refine (new_is _).mono ?_; rintro e w0 ⟨sb, lb, rb, rfl, hst0, hb0⟩; have ST0 := hid hst0; have B0 := hid hb0; clear hst0 hb0)
  go_loopg [15] l.length (fun g i wr => ∃ k : Nat, k ≤ l.length ∧ l.length - k ≤ g ∧ i = .int .i64 k ∧ Aside (Below w.heap.size w wr) ∧ Aside (∃ F, St w.heap.size wr sb lb rb F (4 * k) (fillL (l.take k))))
  case atStart => exact ⟨0, Nat.zero_le _, by omega, rfl, B0.out, ⟨_, ST0.out⟩⟩
  case round =>
    obtain ⟨k, hk, hg, rfl, BR, SR⟩ := hrel
    by_cases hlt : k < l.length
    · have hlti : (k : Int) < l.length := by omega
      obtain ⟨bz, oz, rfl, k0⟩ := HC.out k hlt
      have d0 := (BR.out.cell (p := ⟨bz, oz + k, none⟩) (World.block_lt_of_cell? _ _ k0)).trans k0
      obtain ⟨x, hx⟩ : ∃ x, l.getD k default = x := ⟨_, rfl⟩
      have HX := hid hx
      rw [hx] at d0
      clear k0 hx
      obtain ⟨F, hF⟩ := SR.out
      have SF := hid hF
      clear hF SR
      have HT : Hid (l.take (k + 1) = l.take k ++ [x]) := by
        show l.take (k + 1) = _
        rw [List.take_succ_eq_append_getElem hlt, ← HX.out]
        simp [List.getD, hlt]
      obtain ⟨W, hW⟩ : ∃ W, W = wr.alloc (.cells #[.int .i64 1, .string ⟨#[120]⟩, .int .i64 x, .slice none 0 0, .bool false, .bool false, .int .i64 3, .string ⟨#[120]⟩, .int .i64 x, .slice none 0 0, .bool false, .bool false] 32) := ⟨_, rfl⟩
      have HW := hid hW
      have BW : Hid (Below wr.heap.size wr W) := by show Below _ _ _; rw [hW]; exact below_box wr _
      have HB : Hid (W.heap[wr.heap.size]? = some (.cells #[.int .i64 1, .string ⟨#[120]⟩, .int .i64 x, .slice none 0 0, .bool false, .bool false, .int .i64 3, .string ⟨#[120]⟩, .int .i64 x, .slice none 0 0, .bool false, .bool false] 32)) := by show _ = _; rw [hW, alloc_at, if_pos rfl]
      have AP : Hid (Calls Try.prog 11 #[.pointer (some ⟨sb, 0, none⟩), .slice (some ⟨wr.heap.size, 0, none⟩) 2 2, .bool false] W fun e w' => e = .returned (.bool true) ∧ Below w.heap.size w w' ∧ ∃ F, St w.heap.size w' sb lb rb F (4 * (k + 1)) (fillL (l.take (k + 1)))) := by
        refine (apply_is w.heap.size W sb lb rb F (4 * k) (fillL (l.take k)) [apO x, wrO x] _ false (SF.out.later BW.out) (Nat.le_trans BR.out.size BW.out.size) (ops_lit2 HB.out (fun c => by have := (SF.out.flt _ c).2; omega) (ints_nil _ _) (ints_nil _ _)) (fun o ho => ?_) (by unfold maxLen; simp; omega) (fun i hi => ?_)).mono ?_
        · simp at ho
          rcases ho with rfl | rfl <;> exact (by decide : (⟨#[120]⟩ : ByteArray).size ≤ 281474976710656)
        · have hlt2 := lst_fill (l.take k)
          have hln : (l.take k).length ≤ k := List.length_take_le _ _
          have : i = 0 ∨ i = 1 := by simp at hi; omega
          rcases this with rfl | rfl
          · rw [st_zero]
            show (lstM (fillL (l.take k)) kx).length ≤ _
            rw [hlt2]
            omega
          · show (lstM (stM (fillL (l.take k)) [apO x, wrO x] 1) kx).length ≤ _
            have e : stM (fillL (l.take k)) [apO x, wrO x] 1 = fillL (l.take k) ++ [apO x] := rfl
            rw [e, lst_snoc, if_pos ⟨rfl, rfl⟩, hlt2, List.length_append]
            simp only [List.length_singleton]
            omega
        · rintro e w5 ⟨b, rfl, hb, hS, hG⟩
          have hbt : b = true := hb.2 (ok_pair _ _)
          subst hbt
          refine ⟨rfl, (BR.out.trans (BW.out.mono BR.out.size)).trans (hG.below (Nat.le_trans BR.out.size BW.out.size) (fun i hi c => by have := (SF.out.flt i c).1; omega)), wide F W w5, ?_⟩
          simp only [if_true] at hS
          rw [show [apO x, wrO x].length = 2 from rfl, fill_st, ← fill_snoc, ← HT.out] at hS
          rw [show 4 * (k + 1) = 4 * k + 2 * 2 from by omega]
          exact hS
      clear hW
      go_wp2_with (go_at_call 11; rw [← HW.out]; refine AP.out.mono ?_; rintro e w5 ⟨rfl, hb5, hs5⟩; have B5 := hid hb5; have S5 := hid hs5; clear hb5 hs5)
      go_roundg (l.length - (k + 1))
      case rel => exact ⟨k + 1, by omega, by omega, by go_num, B5.out, S5.out⟩
      case measure => omega
    · have hkl : k = l.length := by omega
      subst hkl
      obtain ⟨F, hF⟩ := SR.out
      rw [List.take_length] at hF
      have SF := hid hF
      clear hF SR
      by_cases hl0 : l.length = 0
      · have OKG : Hid (gets (regM (fillL l) kx) (4, ⟨#[120]⟩, 0, [], true, true) = true) := by
          show gets (regM (fillL l) kx) _ = true
          rw [List.length_eq_zero_iff.1 hl0]
          rfl
        have hm2 : ((l.length : Int) == 0) = true := by rw [beq_iff_eq]; omega
        have hm3 : ¬ ((0 : Int) < l.length) := by omega
        have hm4 : ¬ (0 < l.length) := by omega
        clear hl0
        obtain ⟨W2, hW2⟩ : ∃ W2, W2 = (wr.alloc (.cells #[.int .i64 4, .string ⟨#[120]⟩, .int .i64 0, .slice none 0 0, .bool true, .bool true] 32)).alloc (.cells #[.int .i64 2, .string ⟨#[120]⟩, .int .i64 0, .slice ao l.length c, .bool true, .bool false, .int .i64 4, .string ⟨#[120]⟩, .int .i64 0, .slice none 0 0, .bool true, .bool true] 32) := ⟨_, rfl⟩
        have HW2 := hid hW2
        have BW2 : Hid (Below wr.heap.size wr W2) := by show Below _ _ _; rw [hW2]; exact ((Below.refl _ wr).alloc (Nat.le_refl _) _).alloc (by simp) _
        have HB2 : Hid (W2.heap[wr.heap.size + 1]? = some (.cells #[.int .i64 2, .string ⟨#[120]⟩, .int .i64 0, .slice ao l.length c, .bool true, .bool false, .int .i64 4, .string ⟨#[120]⟩, .int .i64 0, .slice none 0 0, .bool true, .bool true] 32)) := by show _ = _; rw [hW2, alloc_at, if_pos (by simp)]
        have HZ2s : Hid (W2.heap.size = wr.heap.size + 2) := by show _ = _; rw [hW2, alloc_size, alloc_size]
        clear hW2
        have HVF : Hid (∀ (Fq : Nat → Prop) (wq : World), (∀ b, Fq b → w.heap.size ≤ b) → Below w.heap.size w wq → IntsIn (fun b => ¬ Fq b) wq (.slice ao l.length c) l) := fun Fq wq hFq hbq => HV.out.keep (keeps_below hbq) (fun b hb _ cc => by have := hFq b cc; omega)
        have AP : Hid (Calls Try.prog 11 #[.pointer (some ⟨sb, 0, none⟩), .slice (some ⟨wr.heap.size + 1, 0, none⟩) 2 2, .bool false] W2 fun e w' => e = .returned (.bool true) ∧ Below w.heap.size w w' ∧ ∃ F5, St w.heap.size w' sb lb rb F5 (4 * l.length + 4) (fillL l)) := by
          refine (apply_is w.heap.size W2 sb lb rb F (4 * l.length) (fillL l) [(2, ⟨#[120]⟩, 0, l, true, false), (4, ⟨#[120]⟩, 0, [], true, true)] _ false (SF.out.later BW2.out) (Nat.le_trans BR.out.size BW2.out.size) (ops_lit2 (o := (2, ⟨#[120]⟩, 0, l, true, false)) (p := (4, ⟨#[120]⟩, 0, [], true, true)) HB2.out (fun c => by have := (SF.out.flt _ c).2; omega) (HVF.out F W2 (fun b hb => (SF.out.flt b hb).1) (BR.out.trans (BW2.out.mono BR.out.size))) (ints_nil _ _)) (fun o ho => ?_) (by unfold maxLen; simp; omega) (fun i hi => ?_)).mono ?_
          · simp at ho
            rcases ho with rfl | rfl <;> exact (by decide : (⟨#[120]⟩ : ByteArray).size ≤ 281474976710656)
          · have : i = 0 ∨ i = 1 := by simp at hi; omega
            rcases this with rfl | rfl
            · show (lstM (fillL l ++ []) kx).length ≤ _
              rw [List.append_nil, lst_fill]
              omega
            · show (lstM (fillL l ++ []) kx).length ≤ _
              rw [List.append_nil, lst_fill]
              omega
          · rintro e w5 ⟨b, rfl, hb, hS, hG⟩
            have hbt : b = true := hb.2 (fun i hi => .inr (by
              have : i = 0 ∨ i = 1 := by simp at hi; omega
              rcases this with rfl | rfl
              · show rightM (fillL l ++ []) (2, ⟨#[120]⟩, 0, l, true, false) = true
                rw [List.append_nil]
                show sameB l (lstM (fillL l) kx) = true
                rw [lst_fill]
                simp [sameB]
              · show rightM (fillL l ++ []) (4, ⟨#[120]⟩, 0, [], true, true) = true
                rw [List.append_nil]
                show gets (regM (fillL l) kx) (4, ⟨#[120]⟩, 0, [], true, true) = true
                exact OKG.out))
            subst hbt
            refine ⟨rfl, (BR.out.trans (BW2.out.mono BR.out.size)).trans (hG.below (Nat.le_trans BR.out.size BW2.out.size) (fun i hi c => by have := (SF.out.flt i c).1; omega)), wide F W2 w5, ?_⟩
            simp only [if_true] at hS
            rw [show stM (fillL l) ([(2, ⟨#[120]⟩, 0, l, true, false), (4, ⟨#[120]⟩, 0, [], true, true)] : List MOp) ([(2, ⟨#[120]⟩, 0, l, true, false), (4, ⟨#[120]⟩, 0, [], true, true)] : List MOp).length = fillL l ++ [] from rfl, List.append_nil] at hS
            exact hS
        go_wp2_with (first
          | (go_at_call 11
             rw [← HW2.out]
             refine AP.out.mono ?_
             rintro e w5 ⟨rfl, hb5, F5, hs5⟩
             have B5 := hid hb5
             have S5 := hid hs5
             clear hb5 hs5)
          | (go_at_call 6
             refine (clone_own (S := Any) _ l _ (HV.out.below B5.out)).mono ?_
             rintro e w6 ⟨v6, rfl, hr6, hb6⟩
             obtain ⟨a6, c6, hv6⟩ := own_slice hr6
             have R6 := hid hr6
             have B6 := hid hb6
             clear hr6 hb6
             subst hv6)
          | (at_builtin
             refine wpList_append_lies _ rfl _ _ 23 rfl w5.heap.size 3 i0 (.int .i64 0) 1 8 Try.underlying23 HI0.out HZ0.out HZ1.out HZ2.out rfl (by decide) (.slice a6 l.length c6) l.length (l.map (Value.int .i64)) rfl (R6.out.alloc _) ⟨w6.heap.size, 0, none⟩ 1 1 [.int .i64 other] rfl rfl (World.news_of_block (cs := #[.int .i64 other]) (t := 3) (fr := (0, 0)) (by rw [alloc_at, if_pos rfl])) (by simp [Value.oneCell']) (by decide) (by unfold maxLen; omega) (by omega) (by have := B6.out.size; simp; omega) (w6.heap.size + 1) (by simp) ?_
             intro g cap w7 hown hgrow hat hglt
             have B7 : Hid (Below w5.heap.size w5 w7) := by
               have q := (B6.out.trans ((below_box w6 (.cells #[.int .i64 other] 3)).mono B6.out.size))
               exact q.grown hgrow q.size (fun k hk => (own_block2 R6.out hk).1)
             have R7 : Hid (w7.ownsRow w5.heap.size 3 1 (.slice (some ⟨g, 0, none⟩) (l.length + 1) cap) (l ++ [other]).length ((l ++ [other]).map (Value.int .i64))) := by
               show w7.ownsRow _ _ _ _ _ _
               rw [List.length_append, List.map_append]
               exact hown
             obtain ⟨W8, hW8⟩ : ∃ W8, W8 = w7.alloc (.cells #[.int .i64 2, .string ⟨#[120]⟩, .int .i64 0, .slice (some ⟨g, 0, none⟩) (l.length + 1) cap, .bool true, .bool false] 32) := ⟨_, rfl⟩
             have HW8 := hid hW8
             have BW8 : Hid (Below w7.heap.size w7 W8) := by show Below _ _ _; rw [hW8]; exact below_box w7 _
             have HB8 : Hid (W8.heap[w7.heap.size]? = some (.cells #[.int .i64 2, .string ⟨#[120]⟩, .int .i64 0, .slice (some ⟨g, 0, none⟩) (l.length + 1) cap, .bool true, .bool false] 32)) := by show _ = _; rw [hW8, alloc_at, if_pos rfl]
             have HZ8 : Hid (W8.heap.size = w7.heap.size + 1) := by show _ = _; rw [hW8, alloc_size]
             clear hW8
             have hB58 : Below w5.heap.size w5 W8 := B7.out.trans (BW8.out.mono B7.out.size)
             have S8 : Hid (St w.heap.size W8 sb lb rb F5 (4 * l.length + 4) (fillL l)) := S5.out.later hB58
             have F5lt : Hid (∀ b, F5 b → b < w5.heap.size) := fun b hb => (S5.out.flt b hb).2
             have gl : Hid (w5.heap.size ≤ g ∧ g < w7.heap.size) := ⟨(own_block2 R7.out rfl).1, hglt⟩
             have I8 : Hid (IntsIn (fun b => ¬ F5 b) W8 (.slice (some ⟨g, 0, none⟩) (l.length + 1) cap) (l ++ [other])) := own_intsS (own_same R7.out (fun q hq => BW8.out.block q (own_block2 R7.out hq).2)) (by simp; omega) (fun q hq cc => by
               have e : g = q := by simpa [Value.ownBlock] using hq
               subst e
               have h1 := F5lt.out g cc
               have h2 := gl.out.1
               omega)
             have AP8 : Hid (Calls Try.prog 11 #[.pointer (some ⟨sb, 0, none⟩), .slice (some ⟨w7.heap.size, 0, none⟩) 1 1, .bool false] W8 fun e w' => e = .returned (.bool false) ∧ Below w.heap.size w w' ∧ ∃ F9, St w.heap.size w' sb lb rb F9 (4 * l.length + 6) (fillL l) ∧ IntsIn (fun b => ¬ F9 b) w' (.slice (some ⟨g, 0, none⟩) (l.length + 1) cap) (l ++ [other]) ∧ ∀ b, F9 b → b < w'.heap.size) := by
               refine (apply_is w.heap.size W8 sb lb rb F5 (4 * l.length + 4) (fillL l) [(2, ⟨#[120]⟩, 0, l ++ [other], true, false)] _ false S8.out (Nat.le_trans B5.out.size hB58.size) (ops_lit1 (o := (2, ⟨#[120]⟩, 0, l ++ [other], true, false)) HB8.out (fun cc => by have h1 := F5lt.out _ cc; have h2 := B7.out.size; omega) I8.out) (fun o ho => ?_) (by unfold maxLen; simp; omega) (fun i hi => ?_)).mono ?_
               · simp at ho
                 subst ho
                 exact (by decide : (⟨#[120]⟩ : ByteArray).size ≤ 281474976710656)
               · have hi0 : i = 0 := by simp at hi; omega
                 subst hi0
                 show (lstM (fillL l ++ []) kx).length ≤ _
                 rw [List.append_nil, lst_fill]
                 omega
               · rintro e w9 ⟨b, rfl, hb, hS, hG⟩
                 have hbf : b = false := by
                   cases b with
                   | false => rfl
                   | true =>
                     have q := (hb.1 rfl) 0 (by simp)
                     rcases q with q | q
                     · cases q
                     · have q2 : rightM (fillL l ++ []) (2, ⟨#[120]⟩, 0, l ++ [other], true, false) = true := q
                       rw [List.append_nil] at q2
                       have q3 : sameB (l ++ [other]) (lstM (fillL l) kx) = true := q2
                       rw [lst_fill] at q3
                       have q4 := of_decide_eq_true q3
                       have q5 := congrArg List.length q4
                       simp at q5
                 subst hbf
                 have hfl : ∀ b, wide F5 W8 w9 b → b < w9.heap.size := fun b hb => by
                   rcases hb with q | q
                   · have h1 := F5lt.out b q
                     have h2 := hB58.size
                     have h3 := hG.size
                     omega
                   · exact q.2
                 refine ⟨rfl, (B5.out.trans (hB58.mono B5.out.size)).trans (hG.below (Nat.le_trans B5.out.size hB58.size) (fun i hi c => by have := (S5.out.flt i c).1; omega)), wide F5 W8 w9, ?_, ?_, hfl⟩
                 · simp only [Bool.false_eq_true, if_false] at hS
                   exact hS
                 · refine (I8.out.keep (fun b hb hlt => hG.block b hlt hb) (fun b hb hn cc => ?_))
                   rcases cc with q | q
                   · exact hn q
                   · omega
             clear hown hgrow hat hglt hB58)
          | (go_at_call 11
             rw [← HW8.out]
             refine AP8.out.mono ?_
             rintro e w9 ⟨rfl, hb9, F9, hs9, hi9, hf9⟩
             have B9 := hid hb9
             have S9 := hid hs9
             have I9 := hid hi9
             have F9lt := hid hf9
             clear hb9 hs9 hi9 hf9
             obtain ⟨WA, hWA⟩ : ∃ WA, WA = w9.alloc (.cells #[.int .i64 2, .string ⟨#[120]⟩, .int .i64 0, .slice (some ⟨g, 0, none⟩) (l.length + 1) cap, .bool true, .bool false] 32) := ⟨_, rfl⟩
             have HWA := hid hWA
             have BWA : Hid (Below w9.heap.size w9 WA) := by show Below _ _ _; rw [hWA]; exact below_box w9 _
             have HBA : Hid (WA.heap[w9.heap.size]? = some (.cells #[.int .i64 2, .string ⟨#[120]⟩, .int .i64 0, .slice (some ⟨g, 0, none⟩) (l.length + 1) cap, .bool true, .bool false] 32)) := by show _ = _; rw [hWA, alloc_at, if_pos rfl]
             clear hWA
             have APA : Hid (Calls Try.prog 11 #[.pointer (some ⟨sb, 0, none⟩), .slice (some ⟨w9.heap.size, 0, none⟩) 1 1, .bool true] WA fun e w' => e = .returned (.bool true) ∧ Below w.heap.size w w') := by
               refine (apply_is w.heap.size WA sb lb rb F9 (4 * l.length + 6) (fillL l) [(2, ⟨#[120]⟩, 0, l ++ [other], true, false)] _ true (S9.out.later BWA.out) (Nat.le_trans B9.out.size BWA.out.size) (ops_lit1 (o := (2, ⟨#[120]⟩, 0, l ++ [other], true, false)) HBA.out (fun cc => by have h1 := F9lt.out _ cc; omega) (I9.out.keep (keeps_below BWA.out) (fun _ _ x => x))) (fun o ho => ?_) (by unfold maxLen; simp; omega) (fun i hi => ?_)).mono ?_
               · simp at ho
                 subst ho
                 exact (by decide : (⟨#[120]⟩ : ByteArray).size ≤ 281474976710656)
               · have hi0 : i = 0 := by simp at hi; omega
                 subst hi0
                 show (lstM (fillL l ++ []) kx).length ≤ _
                 rw [List.append_nil, lst_fill]
                 omega
               · rintro e wB ⟨b, rfl, hb, hS, hG⟩
                 have hbt : b = true := hb.2 (fun i hi => .inl rfl)
                 subst hbt
                 exact ⟨rfl, (B9.out.trans (BWA.out.mono B9.out.size)).trans (hG.below (Nat.le_trans B9.out.size BWA.out.size) (fun i hi c => by have := (S9.out.flt i c).1; omega))⟩)
          | (go_at_call 11
             rw [← HWA.out]
             refine APA.out.mono ?_
             rintro e wC ⟨rfl, hbC⟩))
        go_ret
        exact ⟨rfl, hbC⟩
      · obtain ⟨m, hm⟩ : ∃ m, l.length = m + 1 := ⟨l.length - 1, by omega⟩
        obtain ⟨bz, oz, rfl, k0⟩ := HC.out m (by omega)
        obtain ⟨y, hy⟩ : ∃ y, l.getD m default = y := ⟨_, rfl⟩
        have d0 := (BR.out.cell (p := ⟨bz, oz + m, none⟩) (World.block_lt_of_cell? _ _ k0)).trans k0
        rw [hy] at d0
        have hbz : bz < wr.heap.size := World.block_lt_of_cell? _ _ d0
        have OKG : Hid (gets (regM (fillL l) kx) (4, ⟨#[120]⟩, y, [], true, false) = true) := by
          have e : l = l.take m ++ [y] := by
            have hlm : m < l.length := by omega
            have q := List.take_succ_eq_append_getElem hlm
            rw [← hm, List.take_length] at q
            have hy2 : l[m] = y := by rw [← hy, List.getD, List.getElem?_eq_getElem hlm]; rfl
            rw [hy2] at q
            exact q
          show gets (regM (fillL l) kx) _ = true
          rw [e, fill_snoc, reg_pair]
          simp [gets, rgV]
        clear k0 hy
        have hm1 : (l.length : Int) - 1 = m := by omega
        have hm2 : ((l.length : Int) == 0) = false := by rw [beq_eq_false_iff_ne]; omega
        have hm3 : (0 : Int) < l.length := by omega
        have hm4 : 0 < l.length := by omega
        have hm5 : (m : Int) < l.length := by omega
        have HMM := hid hm
        clear hm hl0
        obtain ⟨W2, hW2⟩ : ∃ W2, W2 = (wr.alloc (.cells #[.int .i64 4, .string ⟨#[120]⟩, .int .i64 y, .slice none 0 0, .bool true, .bool false] 32)).alloc (.cells #[.int .i64 2, .string ⟨#[120]⟩, .int .i64 0, .slice (some ⟨bz, oz, none⟩) l.length c, .bool true, .bool false, .int .i64 4, .string ⟨#[120]⟩, .int .i64 y, .slice none 0 0, .bool true, .bool false] 32) := ⟨_, rfl⟩
        have HW2 := hid hW2
        have BW2 : Hid (Below wr.heap.size wr W2) := by show Below _ _ _; rw [hW2]; exact ((Below.refl _ wr).alloc (Nat.le_refl _) _).alloc (by simp) _
        have HB2 : Hid (W2.heap[wr.heap.size + 1]? = some (.cells #[.int .i64 2, .string ⟨#[120]⟩, .int .i64 0, .slice (some ⟨bz, oz, none⟩) l.length c, .bool true, .bool false, .int .i64 4, .string ⟨#[120]⟩, .int .i64 y, .slice none 0 0, .bool true, .bool false] 32)) := by show _ = _; rw [hW2, alloc_at, if_pos (by simp)]
        have HZ2s : Hid (W2.heap.size = wr.heap.size + 2) := by show _ = _; rw [hW2, alloc_size, alloc_size]
        clear hW2
        have HVF : Hid (∀ (Fq : Nat → Prop) (wq : World), (∀ b, Fq b → w.heap.size ≤ b) → Below w.heap.size w wq → IntsIn (fun b => ¬ Fq b) wq (.slice (some ⟨bz, oz, none⟩) l.length c) l) := fun Fq wq hFq hbq => HV.out.keep (keeps_below hbq) (fun b hb _ cc => by have := hFq b cc; omega)
        have AP : Hid (Calls Try.prog 11 #[.pointer (some ⟨sb, 0, none⟩), .slice (some ⟨wr.heap.size + 1, 0, none⟩) 2 2, .bool false] W2 fun e w' => e = .returned (.bool true) ∧ Below w.heap.size w w' ∧ ∃ F5, St w.heap.size w' sb lb rb F5 (4 * l.length + 4) (fillL l)) := by
          refine (apply_is w.heap.size W2 sb lb rb F (4 * l.length) (fillL l) [(2, ⟨#[120]⟩, 0, l, true, false), (4, ⟨#[120]⟩, y, [], true, false)] _ false (SF.out.later BW2.out) (Nat.le_trans BR.out.size BW2.out.size) (ops_lit2 (o := (2, ⟨#[120]⟩, 0, l, true, false)) (p := (4, ⟨#[120]⟩, y, [], true, false)) HB2.out (fun c => by have := (SF.out.flt _ c).2; omega) (HVF.out F W2 (fun b hb => (SF.out.flt b hb).1) (BR.out.trans (BW2.out.mono BR.out.size))) (ints_nil _ _)) (fun o ho => ?_) (by unfold maxLen; simp; omega) (fun i hi => ?_)).mono ?_
          · simp at ho
            rcases ho with rfl | rfl <;> exact (by decide : (⟨#[120]⟩ : ByteArray).size ≤ 281474976710656)
          · have : i = 0 ∨ i = 1 := by simp at hi; omega
            rcases this with rfl | rfl
            · show (lstM (fillL l ++ []) kx).length ≤ _
              rw [List.append_nil, lst_fill]
              omega
            · show (lstM (fillL l ++ []) kx).length ≤ _
              rw [List.append_nil, lst_fill]
              omega
          · rintro e w5 ⟨b, rfl, hb, hS, hG⟩
            have hbt : b = true := hb.2 (fun i hi => .inr (by
              have : i = 0 ∨ i = 1 := by simp at hi; omega
              rcases this with rfl | rfl
              · show rightM (fillL l ++ []) (2, ⟨#[120]⟩, 0, l, true, false) = true
                rw [List.append_nil]
                show sameB l (lstM (fillL l) kx) = true
                rw [lst_fill]
                simp [sameB]
              · show rightM (fillL l ++ []) (4, ⟨#[120]⟩, y, [], true, false) = true
                rw [List.append_nil]
                show gets (regM (fillL l) kx) (4, ⟨#[120]⟩, y, [], true, false) = true
                exact OKG.out))
            subst hbt
            refine ⟨rfl, (BR.out.trans (BW2.out.mono BR.out.size)).trans (hG.below (Nat.le_trans BR.out.size BW2.out.size) (fun i hi c => by have := (SF.out.flt i c).1; omega)), wide F W2 w5, ?_⟩
            simp only [if_true] at hS
            rw [show stM (fillL l) ([(2, ⟨#[120]⟩, 0, l, true, false), (4, ⟨#[120]⟩, y, [], true, false)] : List MOp) ([(2, ⟨#[120]⟩, 0, l, true, false), (4, ⟨#[120]⟩, y, [], true, false)] : List MOp).length = fillL l ++ [] from rfl, List.append_nil] at hS
            exact hS
        go_wp2_with (first
          | (go_at_call 11
             rw [← HW2.out]
             refine AP.out.mono ?_
             rintro e w5 ⟨rfl, hb5, F5, hs5⟩
             have B5 := hid hb5
             have S5 := hid hs5
             clear hb5 hs5)
          | (go_at_call 6
             refine (clone_own (S := Any) _ l _ (HV.out.below B5.out)).mono ?_
             rintro e w6 ⟨v6, rfl, hr6, hb6⟩
             obtain ⟨a6, c6, hv6⟩ := own_slice hr6
             have R6 := hid hr6
             have B6 := hid hb6
             clear hr6 hb6
             subst hv6)
          | (at_builtin
             refine wpList_append_lies _ rfl _ _ 23 rfl w5.heap.size 3 i0 (.int .i64 0) 1 8 Try.underlying23 HI0.out HZ0.out HZ1.out HZ2.out rfl (by decide) (.slice a6 l.length c6) l.length (l.map (Value.int .i64)) rfl (R6.out.alloc _) ⟨w6.heap.size, 0, none⟩ 1 1 [.int .i64 other] rfl rfl (World.news_of_block (cs := #[.int .i64 other]) (t := 3) (fr := (0, 0)) (by rw [alloc_at, if_pos rfl])) (by simp [Value.oneCell']) (by decide) (by unfold maxLen; omega) (by omega) (by have := B6.out.size; simp; omega) (w6.heap.size + 1) (by simp) ?_
             intro g cap w7 hown hgrow hat hglt
             have B7 : Hid (Below w5.heap.size w5 w7) := by
               have q := (B6.out.trans ((below_box w6 (.cells #[.int .i64 other] 3)).mono B6.out.size))
               exact q.grown hgrow q.size (fun k hk => (own_block2 R6.out hk).1)
             have R7 : Hid (w7.ownsRow w5.heap.size 3 1 (.slice (some ⟨g, 0, none⟩) (l.length + 1) cap) (l ++ [other]).length ((l ++ [other]).map (Value.int .i64))) := by
               show w7.ownsRow _ _ _ _ _ _
               rw [List.length_append, List.map_append]
               exact hown
             obtain ⟨W8, hW8⟩ : ∃ W8, W8 = w7.alloc (.cells #[.int .i64 2, .string ⟨#[120]⟩, .int .i64 0, .slice (some ⟨g, 0, none⟩) (l.length + 1) cap, .bool true, .bool false] 32) := ⟨_, rfl⟩
             have HW8 := hid hW8
             have BW8 : Hid (Below w7.heap.size w7 W8) := by show Below _ _ _; rw [hW8]; exact below_box w7 _
             have HB8 : Hid (W8.heap[w7.heap.size]? = some (.cells #[.int .i64 2, .string ⟨#[120]⟩, .int .i64 0, .slice (some ⟨g, 0, none⟩) (l.length + 1) cap, .bool true, .bool false] 32)) := by show _ = _; rw [hW8, alloc_at, if_pos rfl]
             have HZ8 : Hid (W8.heap.size = w7.heap.size + 1) := by show _ = _; rw [hW8, alloc_size]
             clear hW8
             have hB58 : Below w5.heap.size w5 W8 := B7.out.trans (BW8.out.mono B7.out.size)
             have S8 : Hid (St w.heap.size W8 sb lb rb F5 (4 * l.length + 4) (fillL l)) := S5.out.later hB58
             have F5lt : Hid (∀ b, F5 b → b < w5.heap.size) := fun b hb => (S5.out.flt b hb).2
             have gl : Hid (w5.heap.size ≤ g ∧ g < w7.heap.size) := ⟨(own_block2 R7.out rfl).1, hglt⟩
             have I8 : Hid (IntsIn (fun b => ¬ F5 b) W8 (.slice (some ⟨g, 0, none⟩) (l.length + 1) cap) (l ++ [other])) := own_intsS (own_same R7.out (fun q hq => BW8.out.block q (own_block2 R7.out hq).2)) (by simp; omega) (fun q hq cc => by
               have e : g = q := by simpa [Value.ownBlock] using hq
               subst e
               have h1 := F5lt.out g cc
               have h2 := gl.out.1
               omega)
             have AP8 : Hid (Calls Try.prog 11 #[.pointer (some ⟨sb, 0, none⟩), .slice (some ⟨w7.heap.size, 0, none⟩) 1 1, .bool false] W8 fun e w' => e = .returned (.bool false) ∧ Below w.heap.size w w' ∧ ∃ F9, St w.heap.size w' sb lb rb F9 (4 * l.length + 6) (fillL l) ∧ IntsIn (fun b => ¬ F9 b) w' (.slice (some ⟨g, 0, none⟩) (l.length + 1) cap) (l ++ [other]) ∧ ∀ b, F9 b → b < w'.heap.size) := by
               refine (apply_is w.heap.size W8 sb lb rb F5 (4 * l.length + 4) (fillL l) [(2, ⟨#[120]⟩, 0, l ++ [other], true, false)] _ false S8.out (Nat.le_trans B5.out.size hB58.size) (ops_lit1 (o := (2, ⟨#[120]⟩, 0, l ++ [other], true, false)) HB8.out (fun cc => by have h1 := F5lt.out _ cc; have h2 := B7.out.size; omega) I8.out) (fun o ho => ?_) (by unfold maxLen; simp; omega) (fun i hi => ?_)).mono ?_
               · simp at ho
                 subst ho
                 exact (by decide : (⟨#[120]⟩ : ByteArray).size ≤ 281474976710656)
               · have hi0 : i = 0 := by simp at hi; omega
                 subst hi0
                 show (lstM (fillL l ++ []) kx).length ≤ _
                 rw [List.append_nil, lst_fill]
                 omega
               · rintro e w9 ⟨b, rfl, hb, hS, hG⟩
                 have hbf : b = false := by
                   cases b with
                   | false => rfl
                   | true =>
                     have q := (hb.1 rfl) 0 (by simp)
                     rcases q with q | q
                     · cases q
                     · have q2 : rightM (fillL l ++ []) (2, ⟨#[120]⟩, 0, l ++ [other], true, false) = true := q
                       rw [List.append_nil] at q2
                       have q3 : sameB (l ++ [other]) (lstM (fillL l) kx) = true := q2
                       rw [lst_fill] at q3
                       have q4 := of_decide_eq_true q3
                       have q5 := congrArg List.length q4
                       simp at q5
                 subst hbf
                 have hfl : ∀ b, wide F5 W8 w9 b → b < w9.heap.size := fun b hb => by
                   rcases hb with q | q
                   · have h1 := F5lt.out b q
                     have h2 := hB58.size
                     have h3 := hG.size
                     omega
                   · exact q.2
                 refine ⟨rfl, (B5.out.trans (hB58.mono B5.out.size)).trans (hG.below (Nat.le_trans B5.out.size hB58.size) (fun i hi c => by have := (S5.out.flt i c).1; omega)), wide F5 W8 w9, ?_, ?_, hfl⟩
                 · simp only [Bool.false_eq_true, if_false] at hS
                   exact hS
                 · refine (I8.out.keep (fun b hb hlt => hG.block b hlt hb) (fun b hb hn cc => ?_))
                   rcases cc with q | q
                   · exact hn q
                   · omega
             clear hown hgrow hat hglt hB58)
          | (go_at_call 11
             rw [← HW8.out]
             refine AP8.out.mono ?_
             rintro e w9 ⟨rfl, hb9, F9, hs9, hi9, hf9⟩
             have B9 := hid hb9
             have S9 := hid hs9
             have I9 := hid hi9
             have F9lt := hid hf9
             clear hb9 hs9 hi9 hf9
             obtain ⟨WA, hWA⟩ : ∃ WA, WA = w9.alloc (.cells #[.int .i64 2, .string ⟨#[120]⟩, .int .i64 0, .slice (some ⟨g, 0, none⟩) (l.length + 1) cap, .bool true, .bool false] 32) := ⟨_, rfl⟩
             have HWA := hid hWA
             have BWA : Hid (Below w9.heap.size w9 WA) := by show Below _ _ _; rw [hWA]; exact below_box w9 _
             have HBA : Hid (WA.heap[w9.heap.size]? = some (.cells #[.int .i64 2, .string ⟨#[120]⟩, .int .i64 0, .slice (some ⟨g, 0, none⟩) (l.length + 1) cap, .bool true, .bool false] 32)) := by show _ = _; rw [hWA, alloc_at, if_pos rfl]
             clear hWA
             have APA : Hid (Calls Try.prog 11 #[.pointer (some ⟨sb, 0, none⟩), .slice (some ⟨w9.heap.size, 0, none⟩) 1 1, .bool true] WA fun e w' => e = .returned (.bool true) ∧ Below w.heap.size w w') := by
               refine (apply_is w.heap.size WA sb lb rb F9 (4 * l.length + 6) (fillL l) [(2, ⟨#[120]⟩, 0, l ++ [other], true, false)] _ true (S9.out.later BWA.out) (Nat.le_trans B9.out.size BWA.out.size) (ops_lit1 (o := (2, ⟨#[120]⟩, 0, l ++ [other], true, false)) HBA.out (fun cc => by have h1 := F9lt.out _ cc; omega) (I9.out.keep (keeps_below BWA.out) (fun _ _ x => x))) (fun o ho => ?_) (by unfold maxLen; simp; omega) (fun i hi => ?_)).mono ?_
               · simp at ho
                 subst ho
                 exact (by decide : (⟨#[120]⟩ : ByteArray).size ≤ 281474976710656)
               · have hi0 : i = 0 := by simp at hi; omega
                 subst hi0
                 show (lstM (fillL l ++ []) kx).length ≤ _
                 rw [List.append_nil, lst_fill]
                 omega
               · rintro e wB ⟨b, rfl, hb, hS, hG⟩
                 have hbt : b = true := hb.2 (fun i hi => .inl rfl)
                 subst hbt
                 exact ⟨rfl, (B9.out.trans (BWA.out.mono B9.out.size)).trans (hG.below (Nat.le_trans B9.out.size BWA.out.size) (fun i hi c => by have := (S9.out.flt i c).1; omega))⟩)
          | (go_at_call 11
             rw [← HWA.out]
             refine APA.out.mono ?_
             rintro e wC ⟨rfl, hbC⟩))
        go_ret
        exact ⟨rfl, hbC⟩
end Go.Proofs.Ytjmjjjehdgcnhab
