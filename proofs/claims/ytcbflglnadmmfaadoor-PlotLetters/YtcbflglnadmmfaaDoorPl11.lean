/-
  bytes.Repeat.
-/
import Derived.Test.YtcbflglnadmmfaaDoorPl10
import Derived.Test.YtcbflglnadmmfaaDoorIo
import Derived.Test.YtcbflglnadmmfaaDoorShP
import Derived.Lib.SlBuf
import Derived.Lib.MakeNoZero
import Derived.Deep.RegionLaw
import Derived.Deep.RegionHeld3
namespace Go.Proofs.YtcbflglnadmmfaaDoor
set_option linter.unusedVariables false
set_option linter.unusedSimpArgs false
open Go.RowKit Go.Lib

theorem Tryd.mixedOrders : Tryd.prog.follows .mixedOrders = true := by kernel_rfl
/-- Bytes repeated. -/
def repL (b : List UInt8) (c : Nat) : List UInt8 := (List.replicate c b).flatten
theorem repL_len (b : List UInt8) (c : Nat) : (repL b c).length = c * b.length := by
  induction c with
  | zero => simp [repL]
  | succ c ih => unfold repL at *; rw [List.replicate_succ, List.flatten_cons, List.length_append, ih, Nat.succ_mul]; omega
theorem repL_at (b : List UInt8) (hb : 0 < b.length) (c : Nat) : ∀ j, j < c * b.length → (repL b c)[j]? = b[j % b.length]? := by
  induction c with
  | zero => intro j hj; omega
  | succ c ih =>
    intro j hj
    unfold repL at *
    rw [List.replicate_succ, List.flatten_cons]
    by_cases h : j < b.length
    · rw [List.getElem?_append_left h, Nat.mod_eq_of_lt h]
    · rw [List.getElem?_append_right (by omega), ih (j - b.length) (by rw [Nat.succ_mul] at hj; omega)]
      have e : j % b.length = (j - b.length) % b.length := by rw [Nat.mod_eq_sub_mod (by omega)]
      rw [e]
/-- What is filled is a beginning of the bytes, repeated. -/
def Fil (b : List UInt8) (acc : List UInt8) : Prop := ∀ j x, acc[j]? = some x → b[j % b.length]? = some x
theorem Fil.full {b acc : List UInt8} {c : Nat} (hb : 0 < b.length) (h : Fil b acc) (hl : acc.length = c * b.length) : acc = repL b c := by
  apply List.ext_getElem?
  intro j
  by_cases hj : j < acc.length
  · rw [repL_at b hb c j (by omega), List.getElem?_eq_getElem hj]
    exact (h j _ (List.getElem?_eq_getElem hj)).symm
  · rw [List.getElem?_eq_none (by omega), List.getElem?_eq_none (by rw [repL_len]; omega)]
/-- A part of it behind a whole number of times. -/
theorem Fil.more {b acc : List UInt8} {m k : Nat} (h : Fil b acc) (hm : acc.length = k * b.length) : Fil b (acc ++ acc.take m) := fun j x hx => by
  by_cases hj : j < acc.length
  · rw [List.getElem?_append_left hj] at hx
    exact h j x hx
  · rw [List.getElem?_append_right (by omega), List.getElem?_take] at hx
    split at hx
    · have q := h _ x hx
      have e : (j - acc.length) % b.length = j % b.length := by
        have : j = (j - acc.length) + k * b.length := by omega
        conv => rhs; rw [this]
        rw [Nat.add_mul_mod_self_right]
      rw [e] at q
      exact q
    · cases hx
/-- 'copy(nb[bp:], nb[:chunk])'. -/
theorem copy_self {P : Program} (w0 wr : World) (h N chunk : Nat) (acc : List UInt8) (t ty e : TypeId) (hu : P.underlying t = some (.slice e)) (hs : (P.info? e).map (·.size) = some 1) (hh : w0.heap.size ≤ h)
    (hb : Buf w0 wr h N acc) (hc : chunk ≤ acc.length) (hc0 : 0 < chunk) (hN : acc.length < N) :
    ∃ wr', (Builtin.copy_ #[t, t] ty #[tailV h N acc.length, .slice (some ⟨h, 0, none⟩) chunk N]).run P wr = .ok (.int .i64 ((acc.take (min chunk (N - acc.length))).length : Int)) wr' ∧ Buf w0 wr' h N (acc ++ acc.take (min chunk (N - acc.length))) := by
  obtain ⟨l, hl⟩ : ∃ l, acc.take (min chunk (N - acc.length)) = l := ⟨_, rfl⟩
  have hll : l.length = min chunk (N - acc.length) := by rw [← hl, List.length_take]; omega
  have hcell : ∀ (j : Nat) x, l[j]? = some x → wr.cell? ⟨h, j, none⟩ = some (.int .u8 (x.toNat : Int)) := fun j x hx => by
    rw [← hl, List.getElem?_take] at hx
    split at hx
    · exact hb.holds j x hx
    · cases hx
  rw [hl]
  have hne : ¬ N = acc.length := by omega
  have hr := run_copy_cells (P := P) wr t t ty e h acc.length (N - acc.length) (N - acc.length) ⟨h, 0, none⟩ chunk N (l.map fun x => Value.int .u8 (x.toNat : Int)) hu hs (by rw [List.length_map, hll])
    (fun j u hj => by
      rw [List.getElem?_map] at hj
      obtain ⟨x, hx, rfl⟩ := Option.map_eq_some_iff.1 hj
      rw [Addr.add_lit, Nat.zero_add]
      exact hcell j x hx)
    (fun j hj => by rw [List.length_map] at hj; exact hb.there _ (by omega)) (fun j hj => by rw [List.length_map] at hj; exact hb.free _ (by omega))
    (fun u hu' => by obtain ⟨x, _, rfl⟩ := List.mem_map.1 hu'; rfl)
  rw [List.length_map] at hr
  refine ⟨_, by unfold tailV; rw [if_neg hne]; exact hr, ?_⟩
  have hin := World.cell?_setCells_in h (l.map fun x => Value.int .u8 (x.toNat : Int)) acc.length wr (fun j hj => by rw [List.length_map] at hj; exact hb.there _ (by omega))
  have hout := World.cell?_setCells_out h (l.map fun x => Value.int .u8 (x.toNat : Int)) acc.length wr
  refine ⟨?_, ?_, ?_, ?_, by rw [List.length_append]; omega⟩
  · exact below_setCells h (Nat.le_refl _) _ _ hb.below
  · intro j hj
    by_cases h1 : acc.length ≤ j ∧ j < acc.length + l.length
    · obtain ⟨d, rfl⟩ : ∃ d, j = acc.length + d := ⟨j - acc.length, by omega⟩
      rw [hin d (by rw [List.length_map]; omega)]
      rfl
    · rw [hout ⟨h, j, none⟩ (fun _ _ => by rw [List.length_map]; show j < _ ∨ _ ≤ j; omega)]
      exact hb.there j hj
  · intro j hj
    rw [World.frozen?_setCells]
    exact hb.free j hj
  · intro j x hx
    by_cases h1 : j < acc.length
    · rw [List.getElem?_append_left h1] at hx
      rw [hout ⟨h, j, none⟩ (fun _ _ => Or.inl h1)]
      exact hb.holds j x hx
    · rw [List.getElem?_append_right (by omega)] at hx
      obtain ⟨d, rfl⟩ : ∃ d, j = acc.length + d := ⟨j - acc.length, by omega⟩
      rw [Nat.add_sub_cancel_left] at hx
      have hd : d < l.length := (List.getElem?_eq_some_iff.1 hx).1
      rw [hin d (by rw [List.length_map]; exact hd)]
      simp [List.getElem_map, (List.getElem?_eq_some_iff.1 hx).2]
theorem mnz_run (n : Nat) (hn : n ≤ 8192) (w : World) : ∃ cs : Array Value, (callFunc 25 #[.int .i64 n]).run Tryd.prog w = .ok (.value (.slice (some ⟨w.heap.size, 0, none⟩) n cs.size)) (w.drew.drew.alloc (.cells cs 5)) ∧ n ≤ cs.size := by
  obtain ⟨cs, h1, h2, h3⟩ := run_makeNoZero (P := Tryd.prog) w #[3] 42 5 Tryd.underlying42 n (by omega)
  refine ⟨cs, ?_, h2⟩
  rw [run_callFunc_extern Tryd.func25 (by kernel_rfl) (by kernel_rfl) (by kernel_rfl) (e := Extern.BytealgMakeNoZero.makeNoZero #[3] #[42]) (by kernel_rfl), h1]
  rfl
theorem Tryd.byteOne : (Tryd.prog.info? 5).map (·.size) = some 1 := by kernel_rfl
theorem Tryd.byteSize (w : World) : (Go.sizeOf 5).run Tryd.prog w = .ok 1 w := by kernel_rfl
theorem step_copy_run {P : Program} {ops : Array Oper} {o : Oper} {a : Act} {w : World} {K : Act → World → Prop} {Q : Exit → Act → World → Prop} {E : Prop} (hgd : o.guard = none) (d s : Operand) (t t' : TypeId)
    (ho : o.op = .call { callee := .builtin .copy, args := #[d, s], argTypes := #[t, t'] }) (v u : Value) (hd : a.eval d = v) (hs : a.eval s = u) {v' : Value} {w' : World}
    (hr : (Builtin.copy_ #[t, t'] o.type #[v, u]).run P w = .ok v' w') (h : K (a.put o.dst v') w') : if Region.wanted o (yielded ops a.tmps) = true then Oper.wp P o a w K Q else E := by
  have hw : Region.wanted o (yielded ops a.tmps) = true := by simp [Region.wanted, hgd]
  rw [if_pos hw]
  exact wp_copy_run w d s t t' ho v u hd hs hr h
/-- What the operations of a round's last region yield. -/
def repV (w : World) (N n0 m : Nat) (tv : Value) : Nat → Value
  | 0 => .int .i64 (n0 : Int)
  | 1 => .slice (some ⟨w.heap.size, 0, none⟩) N N
  | 2 => .int .i64 (n0 : Int)
  | 3 => tv
  | 4 => .slice (some ⟨w.heap.size, 0, none⟩) N N
  | 5 => .int .i64 (n0 : Int)
  | 6 => .slice (some ⟨w.heap.size, 0, none⟩) n0 N
  | 7 => .int .i64 (m : Int)
  | 8 => .int .i64 ((n0 + m : Nat) : Int)
  | 9 => .int .i64 ((n0 + m : Nat) : Int)
  | _ => undef
set_option maxHeartbeats 4000000 in
set_option maxRecDepth 100000 in
theorem repeat_is (w : World) (v : Value) (b : List UInt8) (c : Nat) (hsrc : HoldsBytes w v b) (hb : 0 < b.length) (hc : 0 < c) (hn : c * b.length ≤ 8192) :
    Calls Tryd.prog 14 #[v, .int .i64 c] w fun e w' => e = .returned (.slice (some ⟨w.heap.size, 0, none⟩) (c * b.length) (c * b.length)) ∧ Buf w w' w.heap.size (c * b.length) (repL b c) := by
  obtain ⟨pa, pc, hv, -, -⟩ := id hsrc
  obtain ⟨N, hN⟩ : ∃ N, c * b.length = N := ⟨_, rfl⟩
  have HN := hid hN
  have hcN : c ≤ N := by rw [← hN]; exact Nat.le_mul_of_pos_right c hb
  have hbN : b.length ≤ N := by rw [← hN]; exact Nat.le_mul_of_pos_left _ hc
  rw [hN] at hn ⊢
  obtain ⟨p, hp⟩ : ∃ p, b.length = p := ⟨_, rfl⟩
  have HP := hid hp
  rw [hp] at hv hb hbN
  subst hv
  have HS := hid hsrc
  have hmul : ∀ W, Calls Tryd.prog 24 #[.int .u64 (p : Int), .int .u64 (c : Int)] W fun e w' => e = .returned (.tuple #[.int .u64 0, .int .u64 (N : Int)]) ∧ W = w' := fun W => (Tryd.bits_Mul p c (by omega) (by omega) W).mono fun e w' ⟨h1, h2⟩ => ⟨by
    rw [h1]
    have e1 : p * c = N := by rw [← hN, ← hp, Nat.mul_comm]
    have e2 : N / 18446744073709551616 = 0 := by omega
    have e3 : N % 18446744073709551616 = N := by omega
    rw [e1, e2, e3]
    rfl, h2.symm⟩
  have HMUL := hid hmul
  obtain ⟨cs, hmz, hcs⟩ := mnz_run N hn w
  have B0 : Hid (Buf w (w.alloc (.cells cs 5)).drew.drew w.heap.size N []) := Buf.start w cs 5 N 2 hcs
  clear hsrc hN hp hmul
  have hpi : (p : Int) ≤ 8192 := by omega
  have hci : (c : Int) ≤ 8192 := by omega
  have hni : (N : Int) ≤ 8192 := by omega
  have hp0 : 0 < (p : Int) := by omega
  have hc0 : 0 < (c : Int) := by omega
  have hcsi : (N : Int) ≤ cs.size := by omega
  obtain ⟨w1, hr1, b1⟩ := copy_part (P := Tryd.prog) w _ w.heap.size N [] b (.slice pa p pc) 42 3 5 Tryd.underlying42 Tryd.byteOne (Nat.le_refl _) B0.out HS.out (by simp; rw [HP.out]; exact hbN)
  rw [List.length_nil, tailV_zero] at hr1
  rw [List.nil_append] at b1
  rw [HP.out] at hr1
  have B1 := hid b1
  clear b1
  have F1 : Hid (Fil b b) := fun j x hx => by
    have : j < b.length := (List.getElem?_eq_some_iff.1 hx).1
    rw [Nat.mod_eq_of_lt this]
    exact hx
  go_enter Tryd.func14, Tryd.ntmps14
  go_wp2_with (first
    | (go_at_call 24; refine (HMUL.out _).mono ?_; rintro e w' ⟨rfl, rfl⟩)
    | (at_builtin; refine wpList_copy_run _ rfl _ _ 42 42 rfl _ _ rfl rfl hr1 ?_))
  go_loopg [10, 11] N (fun g bp ch wr => ∃ (acc : List UInt8) (k : Nat), bp = .int .i64 acc.length ∧ N - acc.length ≤ g ∧ acc.length ≤ N ∧ 0 < acc.length ∧ Hid (acc.length = k * b.length ∨ acc.length = N) ∧ Aside (Fil b acc) ∧ Aside (Buf w wr w.heap.size N acc))
  case atStart => exact ⟨b, 1, by rw [HP.out], by omega, by rw [HP.out]; exact hbN, by rw [HP.out]; exact hb, .inl (by omega), F1.out, B1.out⟩
  case round =>
    obtain ⟨acc, k, rfl, hg, hle, hpos, HK, FA, BA⟩ := hrel
    clear B0 B1 hr1 hmz
    by_cases hlt : acc.length < N
    · have hlti : (acc.length : Int) < N := by omega
      obtain ⟨w4, hr4, b4⟩ := copy_self (P := Tryd.prog) w wr.drew w.heap.size N acc.length acc 42 3 5 Tryd.underlying42 Tryd.byteOne (Nat.le_refl _) ⟨BA.out.below.drew, BA.out.there, BA.out.free, BA.out.holds, BA.out.fits⟩ (Nat.le_refl _) hpos hlt
      have F4 : Hid (Fil b (acc ++ acc.take (min acc.length (N - acc.length)))) := by
        rcases HK.out with q | q
        · exact FA.out.more q
        · omega
      obtain ⟨m, hm⟩ : ∃ m, min acc.length (N - acc.length) = m := ⟨_, rfl⟩
      have hml : (acc.take m).length = m := by rw [List.length_take]; omega
      rw [hm] at hr4 b4 F4
      rw [hml] at hr4
      have B4 := hid b4
      have HM := hid hm
      have HML := hid hml
      have hm0 : 0 < m := by omega
      have hmN : acc.length + m ≤ N := by omega
      obtain ⟨n0, hn0⟩ : ∃ n0, acc.length = n0 := ⟨_, rfl⟩
      have HN0 := hid hn0
      rw [hn0] at hr4 hlti hlt hg hle hpos hmN ⊢
      clear b4 hm hml hn0
      have hs1 := fun W => run_slice_tailV (P := Tryd.prog) W 42 5 Tryd.underlying42 Tryd.byteSize w.heap.size N n0 (by omega)
      obtain ⟨tv, htv⟩ : ∃ tv, tailV w.heap.size N n0 = tv := ⟨_, rfl⟩
      rw [htv] at hr4
      simp only [htv] at hs1
      have hs2 : ∀ W, (Instr.slice 42 (.slice (some ⟨w.heap.size, 0, none⟩) N N) none (some (.int .i64 (n0 : Int))) none).run Tryd.prog W = .ok (.slice (some ⟨w.heap.size, 0, none⟩) n0 N) W := fun W => by simp [go_sem, hle, show (n0 : Int) ≤ N by omega]
      have hmi : min (n0 : Int) N = n0 := by omega
      have n0i : (0 : Int) ≤ n0 := by omega
      go_wp2_with fail
      refine wp_region_one (w1 := w4) Tryd.mixedOrders (by kernel_rfl) 7 (by decide) (fun val => { tmps := #[_, _, _, _, _, _, _, _, _, _, val 9, _, _, _, _, _, _, _, _, _, _, _, _, _, _, _, _, _, _, _, _, _, _, _, _, _, _, _, _, _, _, _, _, _, _, _, _, _, _, _, _, _, _, _, _, _, _, _, _, _, _, _, _, _, _, _, _, val 0, val 1, val 2, val 3, val 4, val 5, val 6, val 7, val 8, _], defers := [] }) (repV w N n0 m tv) (fun i => match i with | 0 => u67 | 1 => u68 | 2 => u69 | 3 => u70 | 4 => u71 | 5 => u72 | 6 => u73 | 7 => u74 | 8 => u75 | 9 => .int .i64 (n0 : Int) | _ => undef) rfl _ rfl ⟨?_, ?_, ?_, ?_, ?_, ?_, ?_, ?_, ?_, ?_, trivial⟩ ?_
      · refine ⟨rfl, fun _ _ => rfl, fun val hd hu => ?_⟩
        rw [if_neg (by decide)]
        intro W hW
        have h1 := hu 9 (by kernel_rfl)
        simp only at h1
        simp [execOp, Act.eval, h1, go_sem, repV]
      · exact ⟨rfl, fun _ _ => rfl, fun val hd hu => by rw [if_neg (by decide)]; intro W _; rfl⟩
      · refine ⟨rfl, fun _ _ => rfl, fun val hd hu => ?_⟩
        rw [if_neg (by decide)]
        intro W hW
        have h1 := hu 9 (by kernel_rfl)
        simp only at h1
        simp [execOp, Act.eval, h1, go_sem, repV]
      · refine ⟨rfl, fun _ _ => rfl, fun val hd hu => ?_⟩
        rw [if_neg (by decide)]
        intro W hW
        have h1 := dep_get (V := repV w N n0 m tv) hd 1 (by kernel_rfl)
        simp only [repV] at h1
        have h2 := dep_get (V := repV w N n0 m tv) hd 2 (by kernel_rfl)
        simp only [repV] at h2
        simp [execOp, Act.eval, h1, h2, go_sem, hs1, repV]
      · exact ⟨rfl, fun _ _ => rfl, fun val hd hu => by rw [if_neg (by decide)]; intro W _; rfl⟩
      · exact ⟨rfl, fun _ _ => rfl, fun val hd hu => by rw [if_neg (by decide)]; intro W _; rfl⟩
      · refine ⟨rfl, fun _ _ => rfl, fun val hd hu => ?_⟩
        rw [if_neg (by decide)]
        intro W hW
        have h1 := dep_get (V := repV w N n0 m tv) hd 4 (by kernel_rfl)
        simp only [repV] at h1
        have h2 := dep_get (V := repV w N n0 m tv) hd 5 (by kernel_rfl)
        simp only [repV] at h2
        simp [execOp, Act.eval, h1, h2, go_sem, hs2, repV]
      · refine ⟨rfl, fun _ _ => rfl, fun val hd hu => ?_⟩
        rw [if_pos rfl]
        have h1 := dep_get (V := repV w N n0 m tv) hd 3 (by kernel_rfl)
        simp only [repV] at h1
        have h2 := dep_get (V := repV w N n0 m tv) hd 6 (by kernel_rfl)
        simp only [repV] at h2
        simp [execOp, resolve, invoke, builtin, Act.eval, h1, h2, hr4, Result.andThen, repV]
      · refine ⟨rfl, fun _ _ => rfl, fun val hd hu => ?_⟩
        rw [if_neg (by decide)]
        intro W hW
        have h1 := dep_get (V := repV w N n0 m tv) hd 0 (by kernel_rfl)
        simp only [repV] at h1
        have h2 := dep_get (V := repV w N n0 m tv) hd 7 (by kernel_rfl)
        simp only [repV] at h2
        simp [execOp, Act.eval, h1, h2, go_sem, repV]
        rw [IntKind.wrap_i64]
        omega
      · refine ⟨rfl, fun _ _ => rfl, fun val hd hu => ?_⟩
        rw [if_neg (by decide)]
        intro W hW
        have h1 := dep_get (V := repV w N n0 m tv) hd 8 (by kernel_rfl)
        simp only [repV] at h1
        simp [execOp, Act.eval, h1, go_sem, repV]
      intro val hR
      have h9 := hR 9 (by decide)
      simp only [repV] at h9
      clear hR
      go_wp2_with fail
      rw [h9]
      go_roundg (N - (n0 + m))
      case measure => omega
      case rel =>
        refine ⟨acc ++ acc.take m, 2 * k, by rw [List.length_append, HML.out, HN0.out], by rw [List.length_append, HML.out, HN0.out]; omega, by rw [List.length_append, HML.out, HN0.out]; omega, by rw [List.length_append, HML.out, HN0.out]; omega, ?_, F4.out, B4.out⟩
        have hn00 := HN0.out
        rcases HK.out with q | q
        · by_cases hh : acc.length ≤ N - acc.length
          · left
            have : m = acc.length := by have := HM.out; omega
            rw [List.length_append, HML.out, this, Nat.mul_assoc, ← q]
            omega
          · right
            have : m = N - acc.length := by have := HM.out; omega
            rw [List.length_append, HML.out, this]
            omega
        · omega
    · have hN2 : acc.length = N := by omega
      have HR : Hid (repL b c = acc) := (FA.out.full (c := c) (by rw [HP.out]; exact hb) (by rw [hN2, HN.out])).symm
      rw [hN2]
      go_wp2_with fail
      go_ret
      refine ⟨rfl, ?_⟩
      rw [HR.out]
      exact BA.out
end Go.Proofs.YtcbflglnadmmfaaDoor
