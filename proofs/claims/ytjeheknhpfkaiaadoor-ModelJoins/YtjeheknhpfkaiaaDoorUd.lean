/-
  undo: what operations wrote is taken back.
-/
import Derived.Test.YtjeheknhpfkaiaaDoorBk
namespace Go.Proofs.YtjeheknhpfkaiaaDoor
set_option linter.unusedVariables false
set_option linter.unusedSimpArgs false
open Go.RowKit Go.Shelf Go.Lib Go.Maps
attribute [local go_sem] Oper.semAt_some

theorem lst_cut (X : List MOp) (o : MOp) (h : o.kind = 1) : upd (lstM (X ++ [o])) o.key ((lstM (X ++ [o]) o.key).take (lstM X o.key).length) = lstM X := by
  funext s
  unfold upd
  by_cases e : s = o.key
  · rw [if_pos e, lst_snoc, if_pos ⟨h, rfl⟩, List.take_left, e]
  · rw [if_neg e, lst_snoc, if_neg (fun c => e c.2.symm)]
theorem reg_cut (X : List MOp) (o : MOp) (h : o.kind = 3) : updR (regM (X ++ [o])) o.key (regM X o.key) = regM X := by
  funext s
  unfold updR
  by_cases e : s = o.key
  · rw [if_pos e, e]
  · rw [if_neg e, reg_snoc, if_neg (fun c => e c.2.symm)]
theorem keeps_of {F : Nat → Prop} {B r : Nat} {W w' : World} (h : Gro (fun b => b = r) W w') (hr : r < B) : KeepsFrom B W w' := ⟨h.size, fun k o hk ho _ => (h.block k (Array.getElem?_eq_some_iff.1 ho).1 (fun e => by omega)).trans ho⟩
theorem keepP_of {F : Nat → Prop} {n r : Nat} {W w' : World} (h : Gro (fun b => b = r) W w') (hr : F r) (hn : n ≤ W.heap.size) : KeepP F n W w' := ⟨h.os, h.tape, h.output, h.size, fun b hb hF => h.block b (by omega) (fun e => hF (e ▸ hr))⟩
theorem setReg_any (w : World) (sb rb : Nat) (n : Nat) (key : ByteArray) (R : ByteArray → Option Int) (r : Option Int) (c1 : w.cell? ⟨sb, 1, none⟩ = some (.map (some rb))) (h : Rs w rb n R) (hks : key.size ≤ 281474976710656) (hn : n < maxLen) :
    Calls Tryd.prog 36 #[.pointer (some ⟨sb, 0, none⟩), .string key, .agg #[.int .i64 (rgV r), .bool r.isSome]] w fun e w' => (∃ v, e = .returned v) ∧ Rs w' rb (n + 1) (updR R key r) ∧ Gro (fun b => b = rb) w w' := by
  cases r with
  | none => exact setReg_none w sb rb n key R 0 c1 h hks
  | some x => exact setReg_some w sb rb n key R x c1 h hks hn
theorem wrap_nat (N : Nat) (h : N ≤ 9223372036854775807) : IntKind.i64.wrap (N : Int) = (N : Int) := by
  rw [IntKind.wrap_i64]
  omega
theorem own_cut {B : Nat} {w : World} {a : Option Addr} {N c : Nat} {xs : List Value} (h : w.ownsRow B 3 1 (.slice a (N + 1) c) (N + 1) xs) : w.ownsRow B 3 1 (.slice a N c) N (xs.take N) := by
  rcases h.2 with ⟨hv, hn⟩ | ⟨g, cap, cur, hv, hB, hh, h1, h2, h3, h4⟩
  · cases hn
  · refine ⟨by rw [List.length_take, h.1]; omega, .inr ⟨g, cap, cur, ?_, hB, hh, by omega, h2, h3, ?_⟩⟩
    · injection hv with e1 e2 e3
      rw [e1, e3]
    · rw [← h4, List.take_take]
      congr 1
      omega
theorem setList_cut (B : Nat) (w : World) (sb lb : Nat) (F : Nat → Prop) (n : Nat) (key : ByteArray) (L : ByteArray → List Int) (S : ByteArray → Value) (ys : List Int) (N : Nat) (a : Option Addr) (c : Nat) (hsb : w.cell? ⟨sb, 0, none⟩ = some (.map (some lb))) (h : Ls B w lb F n L S) (hk : key.size ≤ 281474976710656) (hn : n < maxLen)
    (hS : S key = .slice a (N + 1) c) (hL : (L key).length = N + 1) :
    Calls Tryd.prog 35 #[.pointer (some ⟨sb, 0, none⟩), .string key, .slice a N c] w fun e w' => (∃ v, e = .returned v) ∧ (∃ S', Ls B w' lb F (n + 1) (upd L key ((L key).take N)) S') ∧ Gro (fun b => b = lb) w w' := by
  by_cases h0 : N = 0
  · subst h0
    rw [List.take_zero]
    exact (setList_none B w sb lb F n key L S a c hsb (h.less key) hk).mono fun e w' ⟨q1, q2, q3⟩ => ⟨q1, q2, Gro.of_grown q3 rfl⟩
  · have hrow := h.own key
    rw [hS, hL] at hrow
    have hcut := own_cut hrow
    rw [← List.map_take] at hcut
    have hlen : ((L key).take N).length = N := by rw [List.length_take]; omega
    have hob : (Value.slice a N c).ownBlock = (S key).ownBlock := by rw [hS]; cases a <;> rfl
    refine setList_some B w sb lb F n key L S (.slice a N c) ((L key).take N) hsb (h.less key) hk hn (by rw [hlen]; exact hcut) (fun e => by rw [e] at hlen; exact h0 hlen.symm) (fun g hg => h.foot key g (by rw [← hob]; exact hg)) (fun s g hs hg hc => hs (h.apart s key g hc (by rw [← hob]; exact hg)))
set_option maxRecDepth 100000 in
set_option maxHeartbeats 4000000 in
theorem undo_at (B : Nat) (w : World) (sb lb rb : Nat) (F : Nat → Prop) (n : Nat) (L l : List MOp) (i : Nat) (a : Option Addr) (cap : Nat) (lv : Nat → Value) (ro : Option Addr) (rc : Nat) (h : St B w sb lb rb F n (stM L l i)) (hB : B ≤ w.heap.size) (hi : i ≤ l.length)
    (hlen : i * 64 ≤ 140737488355328) (hcap : i ≤ cap) (hrc : i ≤ rc) (hlv : ∀ j, j < i → ∃ a n c, lv j = .slice a n c) (hc : OpCells w a l i lv (fun b => b < w.heap.size ∧ ¬ F b)) (hold : OldRow w ro L l i (fun b => b < w.heap.size ∧ ¬ F b)) (hks : ∀ j, j < i → (l.getD j default).key.size ≤ 281474976710656) (hn : n + i < maxLen) :
    Calls Tryd.prog 24 #[.pointer (some ⟨sb, 0, none⟩), .slice a i cap, .slice ro i rc] w fun e w' => (∃ v, e = .returned v) ∧ St B w' sb lb rb (wide F w w') (n + i) L ∧ Gro F w w' := by
  refine (callsIn_wide (n := 5)).1 ?_
  refine callsIn_of_wp_marks Tryd.func24 rfl trivial ?_ rfl
  simp only [Tryd.ntmps24, List.size_toArray, List.length_cons, List.length_nil, Nat.reduceAdd, Nat.reduceSub, Array.replicate_succ, Array.replicate_zero, List.push_toArray, List.append_toArray, List.nil_append, List.cons_append]
  gi_wp2_with (refine ⟨trivial, ?_⟩; gi_at_call 34; refine (back_in Fence.wide _ trivial rfl _ _ _ _).mono ?_; rintro e w' ⟨rfl, rfl⟩)
  obtain ⟨w3, hw3⟩ : ∃ w3, ((w.alloc (.cells #[.pointer (some ⟨sb, 0, none⟩)] 23)).alloc (.cells #[.slice ro i rc] 63)).alloc (.cells #[.slice a i cap] 22) = w3 := ⟨_, rfl⟩
  have hs3 : w3.heap.size = w.heap.size + 3 := by rw [← hw3, alloc_size, alloc_size, alloc_size]
  have b0 : w3.heap[w.heap.size]? = some (.cells #[.pointer (some ⟨sb, 0, none⟩)] 23) := by rw [← hw3]; simp only [alloc_at, alloc_size]; rw [if_neg (by omega), if_neg (by omega), if_pos trivial]
  have b1 : w3.heap[w.heap.size + 1]? = some (.cells #[.slice ro i rc] 63) := by rw [← hw3]; simp only [alloc_at, alloc_size]; rw [if_neg (by omega), if_pos trivial]
  have b2 : w3.heap[w.heap.size + 2]? = some (.cells #[.slice a i cap] 22) := by rw [← hw3]; simp only [alloc_at, alloc_size]; rw [if_pos trivial]
  have BW : Below w.heap.size w w3 := by rw [← hw3]; exact (((Below.refl _ w).alloc (Nat.le_refl _) _).alloc (by simp) _).alloc (by simp; omega) _
  rw [hw3]
  clear hw3
  have hFl : ∀ b, F b → b < w.heap.size := fun b hb => (h.flt b hb).2
  have h3 : St B w3 sb lb rb F n (stM L l i) := h.later BW
  have hc3 : OpCells w3 a l i lv (fun b => b < w.heap.size ∧ ¬ F b) := hc.keep (fun b hb => BW.block b hb.1)
  have hc4 : OpCells w3 a l i lv (fun b => b < w.heap.size + 3 ∧ ¬ F b) := fun j hj => by
    obtain ⟨b, off, ha, hp, r⟩ := hc3 j hj
    exact ⟨b, off, ha, ⟨by omega, hp.2⟩, r⟩
  refine wpIn_rangeFunc_det (F := Fence.wide) (n := 5) rfl (by omega) (gf := 42) (lb := #[.pointer (some ⟨w.heap.size + 2, 0, none⟩)]) rfl trivial (enters_of Tryd.func42 (by kernel_rfl) rfl)
    (back_seq Fence.wide _ trivial rfl (by omega) F (w.heap.size + 2) (w.heap.size + 3) a l i cap lv w3 hlen hcap hlv (Lib.cell_of_heap b2 0) (by omega) (fun c => by have := hFl _ c; omega) (by omega) hc4)
    (Below.refl _ _) (fun _ => rfl) (fun h k => h.trans k) (fun W l o o' hl _ _ => KeepP.put W l o' (by omega))
    (fun k W => k ≤ i ∧ St B W sb lb rb F (n + k) (stM L l (i - k)) ∧ KeepP F (w.heap.size + 3) w3 W)
    (fun k W l o o' hj hl ho hx => ⟨hj.1, hj.2.1.keep (P := fun b => b = l) ⟨rfl, rfl, rfl, by simp, fun b _ hb => World.putObj_heap_other hb⟩ (fun b hb e => by have := hFl b hb; omega), hj.2.2.trans (KeepP.put W l o' (by omega))⟩)
    (fun o1 o2 => ⟨Nat.zero_le _, h3.later (((Below.refl _ w3).alloc (Nat.le_refl _) _).alloc (by simp) _), ⟨rfl, rfl, rfl, by simp; omega, fun b hb _ => ((Below.refl w3.heap.size w3).alloc (Nat.le_refl _) o1 |>.alloc (by simp) o2).block b (by omega)⟩⟩)
    (fun k a1 W => ∃ Bx, w3.heap.size ≤ Bx ∧ W.heap[Bx]? = some (.cells #[.int .i64 (l.getD (i - 1 - k) default).kind, .string (l.getD (i - 1 - k) default).key, .int .i64 (l.getD (i - 1 - k) default).value, lv (i - 1 - k), .bool (l.getD (i - 1 - k) default).has, .bool (l.getD (i - 1 - k) default).nl] 56) ∧ St B W sb lb rb F (n + k) (stM L l (i - k)) ∧ KeepP F (w.heap.size + 3) w3 W ∧ a1 = { tmps := #[.pointer (some ⟨sb, 0, none⟩), .slice a i cap, .slice ro i rc, .pointer (some ⟨w.heap.size, 0, none⟩), undef, .pointer (some ⟨w.heap.size + 1, 0, none⟩), .int .i64 ((i - 1 - k : Nat) : Int), .pointer (some ⟨Bx, 0, none⟩), undef, .slice a i cap, .func (.func 42) #[] #[.pointer (some ⟨w.heap.size + 2, 0, none⟩)], .int .i64 ((i - 1 - k : Nat) : Int), opV (l.getD (i - 1 - k) default) (lv (i - 1 - k)), undef, undef, undef, undef, undef, undef, undef, undef, undef, undef, undef, undef, undef, undef, undef, undef, undef, undef, undef, undef, undef, undef, undef, undef, undef, undef, undef, undef, undef, undef], defers := [] })
    (fun k a1 W l o o' hj hl ho hx => by
      obtain ⟨Bx, q1, q2, q3, q4, q5⟩ := hj
      refine ⟨Bx, q1, ?_, q3.keep (P := fun b => b = l) ⟨rfl, rfl, rfl, by simp, fun b _ hb => World.putObj_heap_other hb⟩ (fun b hb e => by have := hFl b hb; omega), q4.trans (KeepP.put W l o' (by omega)), q5⟩
      rw [World.putObj_heap_other (fun e => by rw [e, ho] at q2; cases q2; cases hx)]
      exact q2)
    ?assign ?body ?done
  case assign =>
    rintro id k W hk ⟨hk2, hst, hkp⟩
    unfold backX opV
    obtain ⟨la, ln, lc, hl3⟩ := hlv (i - 1 - k) (by omega)
    rw [hl3]
    gi_wp2
    refine ⟨(KeepsOthers.alloc _ _).from _, ⟨rfl, rfl, rfl, by simp, fun b hb _ => (below_box W _).block b (by have := hkp.size; omega)⟩, W.heap.size, by have := hkp.size; omega, ?_, hst.later (below_box W _), hkp.trans ⟨rfl, rfl, rfl, by simp, fun b hb _ => (below_box W _).block b (by have := hkp.size; omega)⟩, ?_⟩
    · rw [alloc_at, if_pos rfl]
      rfl
    · rfl
  case done =>
    rintro D W hD ⟨_, hst, hkp⟩ hK
    rw [Nat.sub_self, st_zero] at hst
    gi_wp2
    refine ⟨by simp, .inl ⟨_, _, rfl, run_takeDeferred hK, ?_⟩⟩
    have hg : Gro F w (W.putObj D (.deferred none)) := ⟨hkp.os.trans BW.os, hkp.tape.trans BW.tape, hkp.output.trans BW.output, by have h1 := hkp.size; rw [World.putObj_size]; omega, fun b hb hn => (World.putObj_heap_other (by omega)).trans ((hkp.block b (by omega) hn).trans (BW.block b hb))⟩
    refine ⟨_, results_none rfl _ _ _, ⟨_, rfl⟩, ?_, hg⟩
    have hst2 : St B (W.putObj D (.deferred none)) sb lb rb F (n + i) L := hst.keep (P := fun b => b = D) ⟨rfl, rfl, rfl, by simp, fun b _ hb => World.putObj_heap_other hb⟩ (fun b hb e => by have := hFl b hb; omega)
    exact hst2.wider (fun b hb => .inl hb) (wide_lt h.flt hB hg.size) (Nat.le_refl _)
  case body =>
    rintro id k a1 W hk ⟨Bx, hBx, hbx, hst, hkp, rfl⟩
    obtain ⟨j, hj⟩ : ∃ j, i - 1 - k = j := ⟨_, rfl⟩
    have hjl : j < i := by omega
    have hik : i - k = j + 1 := by omega
    have hik2 : i - (k + 1) = j := by omega
    rw [hj] at hbx ⊢
    rw [hik, st_next L l j (by omega)] at hst
    rw [hik2]
    obtain ⟨la, ln, lc, hl3⟩ := hlv j hjl
    rw [hl3] at hbx ⊢
    obtain ⟨rbk, roff, rfl, ⟨hrb1, hrbF⟩, r0, r1⟩ := (hold.keep (w' := w3) (fun b hb => BW.block b hb.1)) j hjl
    have hko := hks j hjl
    obtain ⟨o, ho⟩ : ∃ o, l.getD j default = o := ⟨_, rfl⟩
    obtain ⟨X, hX⟩ : ∃ X, stM L l j = X := ⟨_, rfl⟩
    rw [ho] at hbx hst hko r0 r1 ⊢
    rw [hX] at hst r0 r1 ⊢
    have e0 := hkp.cell (i := roff + j * 2) (b := rbk) (by omega) hrbF r0
    have e1 := hkp.cell (i := roff + j * 2 + 1) (b := rbk) (by omega) hrbF r1
    have s0 := hkp.cell (b := w.heap.size) (i := 0) (by omega) (fun c => by have := hFl _ c; omega) (Lib.cell_of_heap b0 0)
    have s1 := hkp.cell (b := w.heap.size + 1) (i := 0) (by omega) (fun c => by have := hFl _ c; omega) (Lib.cell_of_heap b1 0)
    have x0 := Lib.cell_of_heap hbx 0
    have x1 := Lib.cell_of_heap hbx 1
    have hji : (j : Int) < i := by omega
    have hj0 : (0 : Int) ≤ j := by omega
    have HKP := hid hkp
    have HST := hid hst
    have HC := hid hc
    have HC3 := hid hc3
    have HC4 := hid hc4
    have HO := hid hold
    have H0 := hid h
    have H3 := hid h3
    have HL3 := hid hl3
    have HLV := hid hlv
    have HBB := hid hbx
    have HKS := hid hks
    have HB0 := hid b0
    have HB1 := hid b1
    have HB2 := hid b2
    have HBW := hid BW
    have HFL := hid hFl
    have HSS := hid hs3
    clear hkp hst hc hc3 hc4 hold h h3 hj hik hik2 r0 r1 ho hX hl3 hlv hbx hks b0 b1 b2 BW hFl hs3
    obtain ⟨ok, os, ox, ol, oh, on⟩ := o
    unfold opV
    simp only [MOp.kind, MOp.key, MOp.value, MOp.list, MOp.has, MOp.nl] at *
    by_cases h1 : ok = 1
    · subst h1
      have hst1 : St B W sb lb rb F (n + k) (X ++ [(1, os, ox, ol, oh, on)]) := by have := HST.out; rwa [if_pos (by simp [wrB])] at this
      obtain ⟨S, hS⟩ := hst1.ls
      obtain ⟨f, hm, hf⟩ := hS.map
      have c0 := hst1.c0
      have hlt : lstM (X ++ [(1, os, ox, ol, oh, on)]) os = lstM X os ++ [ox] := by rw [lst_snoc, if_pos ⟨rfl, rfl⟩]
      obtain ⟨N, hN⟩ : ∃ N, (lstM X os).length = N := ⟨_, rfl⟩
      have hlen1 : (lstM (X ++ [(1, os, ox, ol, oh, on)]) os).length = N + 1 := by rw [hlt, List.length_append, hN]; rfl
      have hrow := hS.own os
      rw [hlen1] at hrow
      obtain ⟨sa, sc, hsl⟩ := own_slice hrow
      obtain ⟨gs, rfl⟩ : ∃ gs, sa = some ⟨gs, 0, none⟩ := by
        rcases hrow.2 with ⟨_, hn⟩ | ⟨g, cap, cur, hv, _⟩
        · cases hn
        · rw [hsl] at hv
          injection hv with e _ _
          exact ⟨g, e⟩
      have hlook : ∀ (w1 : World), w1.heap[lb]? = W.heap[lb]? → (Instr.lookup 46 (.map (some lb)) (.string os) false).run Tryd.prog w1 = .ok (.slice (some ⟨gs, 0, none⟩) (N + 1) sc) w1 := fun w1 q1 => by
        have q := (hm.same q1).look keys9 Tryd.underlying46 (zeroL w1) (key9 os (key_max hko))
        rw [q, hf, if_neg (by rw [hlt]; simp), ← hsl]
        rfl
      have q0 := hlook W rfl
      have q1 := hlook W.drew rfl
      have hNb : N + 1 ≤ sc := by
        rcases hrow.2 with ⟨_, hn⟩ | ⟨g, cap, cur, hv, _, _, h1, _⟩
        · cases hn
        · rw [hsl] at hv
          injection hv with _ _ e
          omega
      have hscm : sc ≤ 9223372036854775807 := by
        rcases hrow.2 with ⟨_, hn⟩ | ⟨g, cap, cur, hv, _, _, _, h2, _⟩
        · cases hn
        · rw [hsl] at hv
          injection hv with _ _ e
          unfold maxLen at h2
          omega
      have hmx : Tryd.prog.follows .mixedOrders = true := by kernel_rfl
      have HS := hid hS
      have HHL := hid hlt
      have HLN := hid hlen1
      have HNN := hid hN
      have HSL := hid hsl
      have HM := hid hm
      have HF := hid hf
      have HT1 := hid hst1
      clear hS hlt hlen1 hN hsl hm hf hst1 hlook hrow
      gi_wp2
      refine wpIn_mono (Q := fun e a' w' => e = .normal ∧ a' = { tmps := #[.pointer (some ⟨sb, 0, none⟩), .slice a i cap, .slice (some ⟨rbk, roff, none⟩) i rc, .pointer (some ⟨w.heap.size, 0, none⟩), undef, .pointer (some ⟨w.heap.size + 1, 0, none⟩), .int .i64 (j : Int), .pointer (some ⟨Bx, 0, none⟩), .slice (some ⟨gs, 0, none⟩) (N + 1) sc, .slice a i cap, .func (.func 42) #[] #[.pointer (some ⟨w.heap.size + 2, 0, none⟩)], .int .i64 (j : Int), .agg #[.int .i64 1, .string os, .int .i64 ox, .slice la ln lc, .bool oh, .bool on], .pointer (some ⟨Bx, 0, none⟩), .int .i64 1, .bool true, .bool true, .pointer (some ⟨sb, 0, none⟩), .pointer (some ⟨sb, 0, none⟩), .pointer (some ⟨sb, 0, none⟩), .map (some lb), .pointer (some ⟨Bx, 1, none⟩), .string os, .slice (some ⟨gs, 0, none⟩) (N + 1) sc, undef, undef, undef, undef, undef, undef, undef, undef, undef, undef, undef, undef, undef, undef, undef, undef, undef, undef, undef], defers := [] } ∧ w' = W.drew) ?_ ?_
      · gi_region_o
        all_goals exact ⟨rfl, rfl, rfl⟩
      rintro e a' w' ⟨rfl, rfl, rfl⟩
      have LS2 : Hid (Ls B W.drew.drew lb F (n + k) (lstM (X ++ [(1, os, ox, ol, oh, on)])) S) := HS.out.keep HT1.out.fl (fun _ _ => rfl) (fun _ x => x)
      have hnk : n + k < maxLen := by omega
      have hwr : IntKind.i64.wrap (N : Int) = (N : Int) := wrap_nat N (by omega)
      have hNi2 : (N : Int) ≤ sc := by omega
      have hNm : (N : Int) + 1 ≤ 9223372036854775807 := by omega
      have hNi0 : (0 : Int) ≤ N := by omega
      gi_wp2
      refine wpIn_mono (Q := fun e a' w' => e = .normal ∧ (∃ S', Ls B w' lb F (n + k + 1) (upd (lstM (X ++ [(1, os, ox, ol, oh, on)])) os ((lstM (X ++ [(1, os, ox, ol, oh, on)]) os).take N)) S') ∧ Gro (fun b => b = lb) W w') ?_ ?_
      · refine wpIn_region_any hmx ?_
        change wpAnyIn _ _ _ _ _ _ _ _ _ (World.drew _)
        refine wpAnyIn_inRound (F := Fence.wide) rfl (by kernel_rfl) id _ _ _ _ ?_
        refine wpAnyIn_take (i := 1) (v := (.pointer (some ⟨Bx, 1, none⟩))) rfl rfl (by kernel_rfl) (by kernel_rfl) (by kernel_rfl) (fun _ _ _ h => h) ⟨Or.inl ⟨by rfl, ?_⟩, fun _ => rfl⟩ ?_
        · intro wq
          go_simp
        refine wpAnyIn_take (i := 3) (v := (.slice (some ⟨gs, 0, none⟩) (N + 1) sc)) rfl rfl (by kernel_rfl) (by kernel_rfl) (by kernel_rfl) (fun _ _ _ h => h) ⟨Or.inl ⟨by rfl, ?_⟩, fun _ => rfl⟩ ?_
        · intro wq
          go_simp
        refine wpAnyIn_take (i := 4) (v := (.slice (some ⟨gs, 0, none⟩) (N + 1) sc)) rfl rfl (by kernel_rfl) (by kernel_rfl) (by kernel_rfl) (fun _ _ _ h => h) ⟨Or.inl ⟨by rfl, ?_⟩, fun _ => rfl⟩ ?_
        · intro wq
          go_simp
        refine wpAnyIn_take (i := 5) (v := (.int .i64 ((N : Int) + 1))) rfl rfl (by kernel_rfl) (by kernel_rfl) (by kernel_rfl) (fun _ _ _ h => h) ⟨Or.inl ⟨by rfl, ?_⟩, fun _ => rfl⟩ ?_
        · intro wq
          go_simp
        refine wpAnyIn_take (i := 6) (v := (.int .i64 (N : Int))) rfl rfl (by kernel_rfl) (by kernel_rfl) (by kernel_rfl) (fun _ _ _ h => h) ⟨Or.inl ⟨by rfl, ?_⟩, fun _ => rfl⟩ ?_
        · intro wq
          go_simp
        refine wpAnyIn_take (i := 7) (v := (.slice (some ⟨gs, 0, none⟩) N sc)) rfl rfl (by kernel_rfl) (by kernel_rfl) (by kernel_rfl) (fun _ _ _ h => h) ⟨Or.inl ⟨by rfl, ?_⟩, fun _ => rfl⟩ ?_
        · intro wq
          go_simp
        refine wpAnyIn_ready (rs := [0, 2]) (by kernel_rfl) (by simp) ?_
        refine AllReadyIn.cons rfl (fun K hK => ?_) (AllReadyIn.cons rfl (fun K hK => ?_) AllReadyIn.nil)
        · go_simp
          refine hK _ _ ?_
          clear hK K
          refine wpAnyIn_ready (rs := [2]) (by kernel_rfl) (by simp) ?_
          refine AllReadyIn.cons rfl (fun K hK => ?_) AllReadyIn.nil
          go_simp
          refine hK _ _ ?_
          clear hK K
          refine wpAnyIn_ready (rs := [8]) (by kernel_rfl) (by simp) ?_
          refine AllReadyIn.cons rfl (fun K hK => ?_) AllReadyIn.nil
          go_simp
          gi_wp2_with (refine ⟨trivial, ?_⟩; gi_at_call 35; refine (callsIn_wide.2 (setList_cut B W.drew.drew sb lb F (n + k) os _ S [] N (some ⟨gs, 0, none⟩) sc c0 LS2.out hko hnk HSL.out HLN.out)).mono ?_; rintro e w7 ⟨⟨v7, rfl⟩, hL7, hg7⟩; have L7 := hid hL7; have G7 := hid hg7; clear hL7 hg7)
          refine wpAnyIn_done (by kernel_rfl) ?_ _
          exact ⟨rfl, L7.out, ⟨G7.out.os, G7.out.tape, G7.out.output, G7.out.size, G7.out.block⟩⟩
        · go_simp
          refine hK _ _ ?_
          clear hK K
          refine wpAnyIn_ready (rs := [0]) (by kernel_rfl) (by simp) ?_
          refine AllReadyIn.cons rfl (fun K hK => ?_) AllReadyIn.nil
          go_simp
          refine hK _ _ ?_
          clear hK K
          refine wpAnyIn_ready (rs := [8]) (by kernel_rfl) (by simp) ?_
          refine AllReadyIn.cons rfl (fun K hK => ?_) AllReadyIn.nil
          go_simp
          gi_wp2_with (refine ⟨trivial, ?_⟩; gi_at_call 35; refine (callsIn_wide.2 (setList_cut B W.drew.drew sb lb F (n + k) os _ S [] N (some ⟨gs, 0, none⟩) sc c0 LS2.out hko hnk HSL.out HLN.out)).mono ?_; rintro e w7 ⟨⟨v7, rfl⟩, hL7, hg7⟩; have L7 := hid hL7; have G7 := hid hg7; clear hL7 hg7)
          refine wpAnyIn_done (by kernel_rfl) ?_ _
          exact ⟨rfl, L7.out, ⟨G7.out.os, G7.out.tape, G7.out.output, G7.out.size, G7.out.block⟩⟩
      rintro e a' w' ⟨rfl, ⟨S', hS'⟩, hg⟩
      gi_wp2
      have hlbF := HT1.out.fl
      have hrbl : rb < W.heap.size := by obtain ⟨f, h1, _⟩ := HT1.out.rs; exact h1.lt
      have hKP : KeepP F (w.heap.size + 3) W w' := keepP_of hg hlbF (by have h1 := HKP.out.size; have h2 := HSS.out; omega)
      refine ⟨keeps_of (F := F) hg (by have h1 := HFL.out lb hlbF; have h2 := HSS.out; omega), hKP, by omega, ?_, HKP.out.trans hKP⟩
      have hcut := lst_cut X (1, os, ox, ol, oh, on) rfl
      rw [show (lstM X (MOp.key (1, os, ox, ol, oh, on))).length = N from HNN.out] at hcut
      rw [show upd (lstM (X ++ [(1, os, ox, ol, oh, on)])) os (List.take N (lstM (X ++ [(1, os, ox, ol, oh, on)]) os)) = lstM X from hcut] at hS'
      rw [show n + (k + 1) = n + k + 1 from by omega]
      exact HT1.out.lists (S := S') (F' := F) hS' (Nat.le_succ _) (reg_other _ _ (by show (1 : Int) ≠ 3; decide)).symm (fun _ x => x) (fun b hb => ⟨(HT1.out.flt b hb).1, Nat.lt_of_lt_of_le (HT1.out.flt b hb).2 hg.size⟩) (hg.block sb (HT1.out.flt sb HT1.out.fs).2 (fun e => by
        obtain ⟨es, ck, he⟩ := HM.out.block
        have := HT1.out.ob
        rw [e, he] at this
        cases this)) (hg.block rb hrbl (fun e => HT1.out.ne e.symm))
    · by_cases h3 : ok = 3
      · subst h3
        have hst1 : St B W sb lb rb F (n + k) (X ++ [(3, os, ox, ol, oh, on)]) := by have := HST.out; rwa [if_pos (by simp [wrB])] at this
        have c1 := hst1.c1
        have HT1 := hid hst1
        have hnk : n + k < maxLen := by omega
        have hmx : Tryd.prog.follows .mixedOrders = true := by kernel_rfl
        have RS2 : Hid (Rs W.drew rb (n + k) (regM (X ++ [(3, os, ox, ol, oh, on)]))) := by obtain ⟨f, q1, q2⟩ := hst1.rs; exact ⟨f, q1.same rfl, q2⟩
        clear hst1
        gi_wp2
        refine wpIn_mono (Q := fun e a' w' => e = .normal ∧ Rs w' rb (n + k + 1) (updR (regM (X ++ [(3, os, ox, ol, oh, on)])) os (regM X os)) ∧ Gro (fun b => b = rb) W w') ?_ ?_
        · refine wpIn_region_any hmx ?_
          change wpAnyIn _ _ _ _ _ _ _ _ _ (World.drew _)
          refine wpAnyIn_inRound (F := Fence.wide) rfl (by kernel_rfl) id _ _ _ _ ?_
          refine wpAnyIn_take (i := 1) (v := (.pointer (some ⟨Bx, 1, none⟩))) rfl rfl (by kernel_rfl) (by kernel_rfl) (by kernel_rfl) (fun _ _ _ h => h) ⟨Or.inl ⟨by rfl, ?_⟩, fun _ => rfl⟩ ?_
          · intro wq
            go_simp
          refine wpAnyIn_take (i := 4) (v := (.int .i64 (j : Int))) rfl rfl (by kernel_rfl) (by kernel_rfl) (by kernel_rfl) (fun _ _ _ h => h) ⟨Or.inl ⟨by rfl, ?_⟩, fun _ => rfl⟩ ?_
          · intro wq
            go_simp
          refine wpAnyIn_ready (rs := [0, 2, 3]) (by kernel_rfl) (by simp) ?_
          refine AllReadyIn.cons rfl (fun K hK => ?_) (AllReadyIn.cons rfl (fun K hK => ?_) (AllReadyIn.cons rfl (fun K hK => ?_) AllReadyIn.nil))
          · go_simp
            refine hK _ _ ?_
            clear hK K
            refine wpAnyIn_ready (rs := [2, 3]) (by kernel_rfl) (by simp) ?_
            refine AllReadyIn.cons rfl (fun K hK => ?_) (AllReadyIn.cons rfl (fun K hK => ?_) AllReadyIn.nil)
            · go_simp
              refine hK _ _ ?_
              clear hK K
              refine wpAnyIn_ready (rs := [3]) (by kernel_rfl) (by simp) ?_
              refine AllReadyIn.cons rfl (fun K hK => ?_) AllReadyIn.nil
              · go_simp
                refine hK _ _ ?_
                clear hK K
                refine wpAnyIn_take (i := 5) (v := (.pointer (some ⟨rbk, roff + j * 2, none⟩))) rfl rfl (by kernel_rfl) (by kernel_rfl) (by kernel_rfl) (fun _ _ _ h => h) ⟨Or.inl ⟨by rfl, ?_⟩, fun _ => rfl⟩ ?_
                · intro wq
                  go_simp
                refine wpAnyIn_ready (rs := [6]) (by kernel_rfl) (by simp) ?_
                refine AllReadyIn.cons rfl (fun K hK => ?_) AllReadyIn.nil
                · go_simp
                  refine hK _ _ ?_
                  clear hK K
                  refine wpAnyIn_ready (rs := [7]) (by kernel_rfl) (by simp) ?_
                  refine AllReadyIn.cons rfl (fun K hK => ?_) AllReadyIn.nil
                  go_simp
                  gi_wp2_with (refine ⟨trivial, ?_⟩; gi_at_call 36; refine (callsIn_wide.2 (setReg_any W.drew sb rb (n + k) os (regM (X ++ [(3, os, ox, ol, oh, on)])) (regM X os) c1 RS2.out hko hnk)).mono ?_; rintro e w7 ⟨⟨v7, rfl⟩, hL7, hg7⟩; have L7 := hid hL7; have G7 := hid hg7; clear hL7 hg7)
                  refine wpAnyIn_done (by kernel_rfl) ?_ _
                  exact ⟨rfl, L7.out, ⟨G7.out.os, G7.out.tape, G7.out.output, G7.out.size, G7.out.block⟩⟩
            · go_simp
              refine hK _ _ ?_
              clear hK K
              refine wpAnyIn_take (i := 5) (v := (.pointer (some ⟨rbk, roff + j * 2, none⟩))) rfl rfl (by kernel_rfl) (by kernel_rfl) (by kernel_rfl) (fun _ _ _ h => h) ⟨Or.inl ⟨by rfl, ?_⟩, fun _ => rfl⟩ ?_
              · intro wq
                go_simp
              refine wpAnyIn_ready (rs := [2, 6]) (by kernel_rfl) (by simp) ?_
              refine AllReadyIn.cons rfl (fun K hK => ?_) (AllReadyIn.cons rfl (fun K hK => ?_) AllReadyIn.nil)
              · go_simp
                refine hK _ _ ?_
                clear hK K
                refine wpAnyIn_ready (rs := [6]) (by kernel_rfl) (by simp) ?_
                refine AllReadyIn.cons rfl (fun K hK => ?_) AllReadyIn.nil
                · go_simp
                  refine hK _ _ ?_
                  clear hK K
                  refine wpAnyIn_ready (rs := [7]) (by kernel_rfl) (by simp) ?_
                  refine AllReadyIn.cons rfl (fun K hK => ?_) AllReadyIn.nil
                  go_simp
                  gi_wp2_with (refine ⟨trivial, ?_⟩; gi_at_call 36; refine (callsIn_wide.2 (setReg_any W.drew sb rb (n + k) os (regM (X ++ [(3, os, ox, ol, oh, on)])) (regM X os) c1 RS2.out hko hnk)).mono ?_; rintro e w7 ⟨⟨v7, rfl⟩, hL7, hg7⟩; have L7 := hid hL7; have G7 := hid hg7; clear hL7 hg7)
                  refine wpAnyIn_done (by kernel_rfl) ?_ _
                  exact ⟨rfl, L7.out, ⟨G7.out.os, G7.out.tape, G7.out.output, G7.out.size, G7.out.block⟩⟩
              · go_simp
                refine hK _ _ ?_
                clear hK K
                refine wpAnyIn_ready (rs := [2]) (by kernel_rfl) (by simp) ?_
                refine AllReadyIn.cons rfl (fun K hK => ?_) AllReadyIn.nil
                · go_simp
                  refine hK _ _ ?_
                  clear hK K
                  refine wpAnyIn_ready (rs := [7]) (by kernel_rfl) (by simp) ?_
                  refine AllReadyIn.cons rfl (fun K hK => ?_) AllReadyIn.nil
                  go_simp
                  gi_wp2_with (refine ⟨trivial, ?_⟩; gi_at_call 36; refine (callsIn_wide.2 (setReg_any W.drew sb rb (n + k) os (regM (X ++ [(3, os, ox, ol, oh, on)])) (regM X os) c1 RS2.out hko hnk)).mono ?_; rintro e w7 ⟨⟨v7, rfl⟩, hL7, hg7⟩; have L7 := hid hL7; have G7 := hid hg7; clear hL7 hg7)
                  refine wpAnyIn_done (by kernel_rfl) ?_ _
                  exact ⟨rfl, L7.out, ⟨G7.out.os, G7.out.tape, G7.out.output, G7.out.size, G7.out.block⟩⟩
          · go_simp
            refine hK _ _ ?_
            clear hK K
            refine wpAnyIn_ready (rs := [0, 3]) (by kernel_rfl) (by simp) ?_
            refine AllReadyIn.cons rfl (fun K hK => ?_) (AllReadyIn.cons rfl (fun K hK => ?_) AllReadyIn.nil)
            · go_simp
              refine hK _ _ ?_
              clear hK K
              refine wpAnyIn_ready (rs := [3]) (by kernel_rfl) (by simp) ?_
              refine AllReadyIn.cons rfl (fun K hK => ?_) AllReadyIn.nil
              · go_simp
                refine hK _ _ ?_
                clear hK K
                refine wpAnyIn_take (i := 5) (v := (.pointer (some ⟨rbk, roff + j * 2, none⟩))) rfl rfl (by kernel_rfl) (by kernel_rfl) (by kernel_rfl) (fun _ _ _ h => h) ⟨Or.inl ⟨by rfl, ?_⟩, fun _ => rfl⟩ ?_
                · intro wq
                  go_simp
                refine wpAnyIn_ready (rs := [6]) (by kernel_rfl) (by simp) ?_
                refine AllReadyIn.cons rfl (fun K hK => ?_) AllReadyIn.nil
                · go_simp
                  refine hK _ _ ?_
                  clear hK K
                  refine wpAnyIn_ready (rs := [7]) (by kernel_rfl) (by simp) ?_
                  refine AllReadyIn.cons rfl (fun K hK => ?_) AllReadyIn.nil
                  go_simp
                  gi_wp2_with (refine ⟨trivial, ?_⟩; gi_at_call 36; refine (callsIn_wide.2 (setReg_any W.drew sb rb (n + k) os (regM (X ++ [(3, os, ox, ol, oh, on)])) (regM X os) c1 RS2.out hko hnk)).mono ?_; rintro e w7 ⟨⟨v7, rfl⟩, hL7, hg7⟩; have L7 := hid hL7; have G7 := hid hg7; clear hL7 hg7)
                  refine wpAnyIn_done (by kernel_rfl) ?_ _
                  exact ⟨rfl, L7.out, ⟨G7.out.os, G7.out.tape, G7.out.output, G7.out.size, G7.out.block⟩⟩
            · go_simp
              refine hK _ _ ?_
              clear hK K
              refine wpAnyIn_take (i := 5) (v := (.pointer (some ⟨rbk, roff + j * 2, none⟩))) rfl rfl (by kernel_rfl) (by kernel_rfl) (by kernel_rfl) (fun _ _ _ h => h) ⟨Or.inl ⟨by rfl, ?_⟩, fun _ => rfl⟩ ?_
              · intro wq
                go_simp
              refine wpAnyIn_ready (rs := [0, 6]) (by kernel_rfl) (by simp) ?_
              refine AllReadyIn.cons rfl (fun K hK => ?_) (AllReadyIn.cons rfl (fun K hK => ?_) AllReadyIn.nil)
              · go_simp
                refine hK _ _ ?_
                clear hK K
                refine wpAnyIn_ready (rs := [6]) (by kernel_rfl) (by simp) ?_
                refine AllReadyIn.cons rfl (fun K hK => ?_) AllReadyIn.nil
                · go_simp
                  refine hK _ _ ?_
                  clear hK K
                  refine wpAnyIn_ready (rs := [7]) (by kernel_rfl) (by simp) ?_
                  refine AllReadyIn.cons rfl (fun K hK => ?_) AllReadyIn.nil
                  go_simp
                  gi_wp2_with (refine ⟨trivial, ?_⟩; gi_at_call 36; refine (callsIn_wide.2 (setReg_any W.drew sb rb (n + k) os (regM (X ++ [(3, os, ox, ol, oh, on)])) (regM X os) c1 RS2.out hko hnk)).mono ?_; rintro e w7 ⟨⟨v7, rfl⟩, hL7, hg7⟩; have L7 := hid hL7; have G7 := hid hg7; clear hL7 hg7)
                  refine wpAnyIn_done (by kernel_rfl) ?_ _
                  exact ⟨rfl, L7.out, ⟨G7.out.os, G7.out.tape, G7.out.output, G7.out.size, G7.out.block⟩⟩
              · go_simp
                refine hK _ _ ?_
                clear hK K
                refine wpAnyIn_ready (rs := [0]) (by kernel_rfl) (by simp) ?_
                refine AllReadyIn.cons rfl (fun K hK => ?_) AllReadyIn.nil
                · go_simp
                  refine hK _ _ ?_
                  clear hK K
                  refine wpAnyIn_ready (rs := [7]) (by kernel_rfl) (by simp) ?_
                  refine AllReadyIn.cons rfl (fun K hK => ?_) AllReadyIn.nil
                  go_simp
                  gi_wp2_with (refine ⟨trivial, ?_⟩; gi_at_call 36; refine (callsIn_wide.2 (setReg_any W.drew sb rb (n + k) os (regM (X ++ [(3, os, ox, ol, oh, on)])) (regM X os) c1 RS2.out hko hnk)).mono ?_; rintro e w7 ⟨⟨v7, rfl⟩, hL7, hg7⟩; have L7 := hid hL7; have G7 := hid hg7; clear hL7 hg7)
                  refine wpAnyIn_done (by kernel_rfl) ?_ _
                  exact ⟨rfl, L7.out, ⟨G7.out.os, G7.out.tape, G7.out.output, G7.out.size, G7.out.block⟩⟩
          · go_simp
            refine hK _ _ ?_
            clear hK K
            refine wpAnyIn_take (i := 5) (v := (.pointer (some ⟨rbk, roff + j * 2, none⟩))) rfl rfl (by kernel_rfl) (by kernel_rfl) (by kernel_rfl) (fun _ _ _ h => h) ⟨Or.inl ⟨by rfl, ?_⟩, fun _ => rfl⟩ ?_
            · intro wq
              go_simp
            refine wpAnyIn_ready (rs := [0, 2, 6]) (by kernel_rfl) (by simp) ?_
            refine AllReadyIn.cons rfl (fun K hK => ?_) (AllReadyIn.cons rfl (fun K hK => ?_) (AllReadyIn.cons rfl (fun K hK => ?_) AllReadyIn.nil))
            · go_simp
              refine hK _ _ ?_
              clear hK K
              refine wpAnyIn_ready (rs := [2, 6]) (by kernel_rfl) (by simp) ?_
              refine AllReadyIn.cons rfl (fun K hK => ?_) (AllReadyIn.cons rfl (fun K hK => ?_) AllReadyIn.nil)
              · go_simp
                refine hK _ _ ?_
                clear hK K
                refine wpAnyIn_ready (rs := [6]) (by kernel_rfl) (by simp) ?_
                refine AllReadyIn.cons rfl (fun K hK => ?_) AllReadyIn.nil
                · go_simp
                  refine hK _ _ ?_
                  clear hK K
                  refine wpAnyIn_ready (rs := [7]) (by kernel_rfl) (by simp) ?_
                  refine AllReadyIn.cons rfl (fun K hK => ?_) AllReadyIn.nil
                  go_simp
                  gi_wp2_with (refine ⟨trivial, ?_⟩; gi_at_call 36; refine (callsIn_wide.2 (setReg_any W.drew sb rb (n + k) os (regM (X ++ [(3, os, ox, ol, oh, on)])) (regM X os) c1 RS2.out hko hnk)).mono ?_; rintro e w7 ⟨⟨v7, rfl⟩, hL7, hg7⟩; have L7 := hid hL7; have G7 := hid hg7; clear hL7 hg7)
                  refine wpAnyIn_done (by kernel_rfl) ?_ _
                  exact ⟨rfl, L7.out, ⟨G7.out.os, G7.out.tape, G7.out.output, G7.out.size, G7.out.block⟩⟩
              · go_simp
                refine hK _ _ ?_
                clear hK K
                refine wpAnyIn_ready (rs := [2]) (by kernel_rfl) (by simp) ?_
                refine AllReadyIn.cons rfl (fun K hK => ?_) AllReadyIn.nil
                · go_simp
                  refine hK _ _ ?_
                  clear hK K
                  refine wpAnyIn_ready (rs := [7]) (by kernel_rfl) (by simp) ?_
                  refine AllReadyIn.cons rfl (fun K hK => ?_) AllReadyIn.nil
                  go_simp
                  gi_wp2_with (refine ⟨trivial, ?_⟩; gi_at_call 36; refine (callsIn_wide.2 (setReg_any W.drew sb rb (n + k) os (regM (X ++ [(3, os, ox, ol, oh, on)])) (regM X os) c1 RS2.out hko hnk)).mono ?_; rintro e w7 ⟨⟨v7, rfl⟩, hL7, hg7⟩; have L7 := hid hL7; have G7 := hid hg7; clear hL7 hg7)
                  refine wpAnyIn_done (by kernel_rfl) ?_ _
                  exact ⟨rfl, L7.out, ⟨G7.out.os, G7.out.tape, G7.out.output, G7.out.size, G7.out.block⟩⟩
            · go_simp
              refine hK _ _ ?_
              clear hK K
              refine wpAnyIn_ready (rs := [0, 6]) (by kernel_rfl) (by simp) ?_
              refine AllReadyIn.cons rfl (fun K hK => ?_) (AllReadyIn.cons rfl (fun K hK => ?_) AllReadyIn.nil)
              · go_simp
                refine hK _ _ ?_
                clear hK K
                refine wpAnyIn_ready (rs := [6]) (by kernel_rfl) (by simp) ?_
                refine AllReadyIn.cons rfl (fun K hK => ?_) AllReadyIn.nil
                · go_simp
                  refine hK _ _ ?_
                  clear hK K
                  refine wpAnyIn_ready (rs := [7]) (by kernel_rfl) (by simp) ?_
                  refine AllReadyIn.cons rfl (fun K hK => ?_) AllReadyIn.nil
                  go_simp
                  gi_wp2_with (refine ⟨trivial, ?_⟩; gi_at_call 36; refine (callsIn_wide.2 (setReg_any W.drew sb rb (n + k) os (regM (X ++ [(3, os, ox, ol, oh, on)])) (regM X os) c1 RS2.out hko hnk)).mono ?_; rintro e w7 ⟨⟨v7, rfl⟩, hL7, hg7⟩; have L7 := hid hL7; have G7 := hid hg7; clear hL7 hg7)
                  refine wpAnyIn_done (by kernel_rfl) ?_ _
                  exact ⟨rfl, L7.out, ⟨G7.out.os, G7.out.tape, G7.out.output, G7.out.size, G7.out.block⟩⟩
              · go_simp
                refine hK _ _ ?_
                clear hK K
                refine wpAnyIn_ready (rs := [0]) (by kernel_rfl) (by simp) ?_
                refine AllReadyIn.cons rfl (fun K hK => ?_) AllReadyIn.nil
                · go_simp
                  refine hK _ _ ?_
                  clear hK K
                  refine wpAnyIn_ready (rs := [7]) (by kernel_rfl) (by simp) ?_
                  refine AllReadyIn.cons rfl (fun K hK => ?_) AllReadyIn.nil
                  go_simp
                  gi_wp2_with (refine ⟨trivial, ?_⟩; gi_at_call 36; refine (callsIn_wide.2 (setReg_any W.drew sb rb (n + k) os (regM (X ++ [(3, os, ox, ol, oh, on)])) (regM X os) c1 RS2.out hko hnk)).mono ?_; rintro e w7 ⟨⟨v7, rfl⟩, hL7, hg7⟩; have L7 := hid hL7; have G7 := hid hg7; clear hL7 hg7)
                  refine wpAnyIn_done (by kernel_rfl) ?_ _
                  exact ⟨rfl, L7.out, ⟨G7.out.os, G7.out.tape, G7.out.output, G7.out.size, G7.out.block⟩⟩
            · go_simp
              refine hK _ _ ?_
              clear hK K
              refine wpAnyIn_ready (rs := [0, 2]) (by kernel_rfl) (by simp) ?_
              refine AllReadyIn.cons rfl (fun K hK => ?_) (AllReadyIn.cons rfl (fun K hK => ?_) AllReadyIn.nil)
              · go_simp
                refine hK _ _ ?_
                clear hK K
                refine wpAnyIn_ready (rs := [2]) (by kernel_rfl) (by simp) ?_
                refine AllReadyIn.cons rfl (fun K hK => ?_) AllReadyIn.nil
                · go_simp
                  refine hK _ _ ?_
                  clear hK K
                  refine wpAnyIn_ready (rs := [7]) (by kernel_rfl) (by simp) ?_
                  refine AllReadyIn.cons rfl (fun K hK => ?_) AllReadyIn.nil
                  go_simp
                  gi_wp2_with (refine ⟨trivial, ?_⟩; gi_at_call 36; refine (callsIn_wide.2 (setReg_any W.drew sb rb (n + k) os (regM (X ++ [(3, os, ox, ol, oh, on)])) (regM X os) c1 RS2.out hko hnk)).mono ?_; rintro e w7 ⟨⟨v7, rfl⟩, hL7, hg7⟩; have L7 := hid hL7; have G7 := hid hg7; clear hL7 hg7)
                  refine wpAnyIn_done (by kernel_rfl) ?_ _
                  exact ⟨rfl, L7.out, ⟨G7.out.os, G7.out.tape, G7.out.output, G7.out.size, G7.out.block⟩⟩
              · go_simp
                refine hK _ _ ?_
                clear hK K
                refine wpAnyIn_ready (rs := [0]) (by kernel_rfl) (by simp) ?_
                refine AllReadyIn.cons rfl (fun K hK => ?_) AllReadyIn.nil
                · go_simp
                  refine hK _ _ ?_
                  clear hK K
                  refine wpAnyIn_ready (rs := [7]) (by kernel_rfl) (by simp) ?_
                  refine AllReadyIn.cons rfl (fun K hK => ?_) AllReadyIn.nil
                  go_simp
                  gi_wp2_with (refine ⟨trivial, ?_⟩; gi_at_call 36; refine (callsIn_wide.2 (setReg_any W.drew sb rb (n + k) os (regM (X ++ [(3, os, ox, ol, oh, on)])) (regM X os) c1 RS2.out hko hnk)).mono ?_; rintro e w7 ⟨⟨v7, rfl⟩, hL7, hg7⟩; have L7 := hid hL7; have G7 := hid hg7; clear hL7 hg7)
                  refine wpAnyIn_done (by kernel_rfl) ?_ _
                  exact ⟨rfl, L7.out, ⟨G7.out.os, G7.out.tape, G7.out.output, G7.out.size, G7.out.block⟩⟩
        rintro e a' w' ⟨rfl, hR', hg⟩
        gi_wp2
        have hrbF := HT1.out.fr
        have hKP : KeepP F (w.heap.size + 3) W w' := keepP_of hg hrbF (by have h1 := HKP.out.size; have h2 := HSS.out; omega)
        refine ⟨keeps_of (F := F) hg (by have h1 := HFL.out rb hrbF; have h2 := HSS.out; omega), hKP, by omega, ?_, HKP.out.trans hKP⟩
        rw [show updR (regM (X ++ [(3, os, ox, ol, oh, on)])) os (regM X os) = regM X from reg_cut X (3, os, ox, ol, oh, on) rfl] at hR'
        rw [show n + (k + 1) = n + k + 1 from by omega]
        exact HT1.out.regs (F' := F) hR' (Nat.le_succ _) (lst_other _ _ (by show (3 : Int) ≠ 1; decide)).symm (fun _ x => x) (fun b hb => ⟨(HT1.out.flt b hb).1, Nat.lt_of_lt_of_le (HT1.out.flt b hb).2 hg.size⟩) (fun b hb hne => hg.block b (HT1.out.flt b hb).2 hne)
      · have hst1 : St B W sb lb rb F (n + k) X := by have := HST.out; rwa [if_neg (by simp [wrB, h1, h3])] at this
        have g1 : (ok == 1) = false := by simp [h1]
        have g3 : (ok == 3) = false := by simp [h3]
        have HT1 := hid hst1
        clear hst1
        gi_wp2
        exact ⟨KeepsFrom.refl _ _, KeepP.refl _ _ _, by omega, HT1.out.wider (fun _ x => x) HT1.out.flt (by omega), HKP.out⟩
theorem undo_is : UndoIs := fun B w sb lb rb F n L l i a cap lv ro rc h hB hi hlen hcap hrc hlv hc hold hks hn => undo_at B w sb lb rb F n L l i a cap lv ro rc h hB hi hlen hcap hrc hlv hc hold hks hn
end Go.Proofs.YtjeheknhpfkaiaaDoor
