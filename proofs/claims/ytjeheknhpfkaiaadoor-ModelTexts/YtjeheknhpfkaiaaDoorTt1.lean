/-
  A line of a state's text, written into a builder.
-/
import Derived.Test.YtjeheknhpfkaiaaDoorTt0
import Derived.Test.YtjeheknhpfkaiaaDoorM1
import Derived.Test.YtjeheknhpfkaiaaDoorShB
import Derived.Laws.IdiomStrings
import Derived.Laws.Concat
import Derived.Laws.OwnMore
import Derived.Lib.AppendIntMem
import Derived.Lib.OthersKept
namespace Go.Proofs.YtjeheknhpfkaiaaDoor
set_option linter.unusedVariables false
set_option linter.unusedSimpArgs false
open Go.RowKit Go.Lib Go.Maps Go.Sort

/-- The table of strconv stands in all worlds in which nothing below B has changed. -/
abbrev Pow (B : Nat) (w : World) : Prop := Lib.TabBelow Tryd.prog B w "internal/strconv.uint64pow10" .u64 Lib.pow10Tab
/-- A builder, and what stays beside it. -/
structure Wr (B b : Nat) (w wr : World) (bs : Bs) : Prop where
  bu : Lib.IsBuilderF 40 5 B b (Lib.byteCells bs) wr
  be : Below B w wr
  ok : Lib.OthersKept 5 (some b) w wr
theorem cells_more (bs : Bs) (x : ByteArray) : Lib.byteCells bs ++ Lib.strCells x = Lib.byteCells (bs ++ x.data.toList) := by
  simp [Lib.byteCells, Lib.strCells]
/-- Values in a row of ints, in a block that is not b. -/
def VaIn (b : Nat) (w : World) (a : Option Addr) (vs : List Int) : Prop := ∀ j, j < vs.length → ∃ g o cs fr, a = some ⟨g, o, none⟩ ∧ g ≠ b ∧ w.heap[g]? = some (.cells cs 3 fr) ∧ w.cell? ⟨g, o + j, none⟩ = some (.int .i64 (vs.getD j 0))
theorem VaIn.kept {b : Nat} {w w' : World} {a : Option Addr} {vs : List Int} (h : VaIn b w a vs) (hk : Lib.OthersKept 5 (some b) w w') : VaIn b w' a vs := fun j hj => by
  obtain ⟨g, o, cs, fr, ha, hg, hh, hc⟩ := h j hj
  have hh' := hk g _ hh (fun e => hg (by injection e)) (fun c fz e => by injection e with _ e; exact absurd e (by decide))
  exact ⟨g, o, cs, fr, ha, hg, hh', (World.cell?_of_block (a := ⟨g, o + j, none⟩) (hh'.trans hh.symm)).trans hc⟩
theorem Wr.later {B b : Nat} {w wr W : World} {bs : Bs} (h : Wr B b w wr bs) (hb : Below wr.heap.size wr W) : Wr B b w W bs := by
  have step : ∀ p, Lib.BuilderAtF 40 5 B b p (Lib.byteCells bs) wr → Lib.BuilderAtF 40 5 B b p (Lib.byteCells bs) W := fun p hp => by
    obtain ⟨hB, v, hbk, hown, hne⟩ := hp
    refine ⟨hB, v, (hb.block b (blt hbk)).trans hbk, ⟨hown.1, ?_⟩, hne⟩
    rcases hown.2 with h1 | ⟨g, cap, cur, fz, hv, hg, hh, hr⟩
    · exact .inl h1
    · exact .inr ⟨g, cap, cur, fz, hv, hg, (hb.block g (blt hh)).trans hh, hr⟩
  refine ⟨?_, h.be.trans (hb.mono ?_), h.ok.trans (fun k o hk _ _ => (hb.block k (blt hk)).trans hk)⟩
  · rcases h.bu with q | q
    · exact .inl (step _ q)
    · exact .inr (step _ q)
  · rcases h.bu with q | q
    · exact Nat.le_of_lt (Nat.lt_of_le_of_lt q.1 (by obtain ⟨_, v, hbk, _⟩ := q; exact blt hbk))
    · exact Nat.le_of_lt (Nat.lt_of_le_of_lt q.1 (by obtain ⟨_, v, hbk, _⟩ := q; exact blt hbk))
theorem Wr.low {B b : Nat} {w wr : World} {bs : Bs} (h : Wr B b w wr bs) : B ≤ wr.heap.size := by
  rcases h.bu with q | q
  · exact Nat.le_of_lt (Nat.lt_of_le_of_lt q.1 (by obtain ⟨_, v, hbk, _⟩ := q; exact blt hbk))
  · exact Nat.le_of_lt (Nat.lt_of_le_of_lt q.1 (by obtain ⟨_, v, hbk, _⟩ := q; exact blt hbk))
/-- A text is written. -/
theorem Wr.wrote {B b : Nat} {w wr W : World} {bs : Bs} {s : ByteArray} (h : Wr B b w wr bs) (h1 : Lib.BuilderAtF 40 5 B b (.pointer (some ⟨b, 0, none⟩)) (Lib.byteCells bs ++ Lib.strCells s) W) (h2 : Below B wr W) (h3 : Lib.OthersKept 5 (some b) wr W) : Wr B b w W (bs ++ s.data.toList) := by
  rw [cells_more] at h1
  exact ⟨.inr h1, h.be.trans h2, h.ok.trans h3⟩
theorem write_is {B b : Nat} {w wr : World} {bs : Bs} (s : ByteArray) (h : Wr B b w wr bs) (hl : bs.length + s.size ≤ 140737488355328) : Calls Tryd.prog 30 #[.pointer (some ⟨b, 0, none⟩), .string s] wr fun e W => e = .returned (.tuple #[.int .i64 s.size, .nilIface]) ∧ Wr B b w W (bs ++ s.data.toList) ∧ Lib.OthersKept 5 (some b) wr W :=
  (Tryd.Builder_WriteString_k B b (Lib.byteCells bs) s wr h.bu (by rw [Lib.byteCells_length]; exact hl) h.low).mono fun e W ⟨h1, h2, h3, h4⟩ => ⟨h1, h.wrote h2 h3 h4, h4⟩
theorem itoa_is {B b : Nat} {w wr : World} {bs : Bs} (n : Int) (h0 : -9223372036854775808 ≤ n) (h1 : n ≤ 9223372036854775807) (ht : Pow B w) (h : Wr B b w wr bs) : Calls Tryd.prog 31 #[.int .i64 n] wr fun e W => ∃ X : ByteArray, e = .returned (.string X) ∧ X.data.toList = Lib.itoa n ∧ X.size ≤ 20 ∧ Wr B b w W bs ∧ Lib.OthersKept 5 (some b) wr W :=
  (Tryd.strconv_Itoa n h0 h1 wr (ht _ h.be)).mono fun e W ⟨h2, k, os, h3⟩ => ⟨_, h2, by simp, by
    have := itoa_len h0 h1
    show (Lib.itoa n).toArray.size ≤ 20
    simpa using this, by
    rw [h3]
    exact h.later (Lib.below_grow _ _ (Nat.le_refl _) _ _), by
    rw [h3]
    exact fun k o hk _ _ => ((Lib.below_grow _ _ (Nat.le_refl wr.heap.size) _ _).block k (blt hk)).trans hk⟩
theorem head_len {bs : Bs} {T : ByteArray} {kd key : ByteArray} {vs : List Int} (hT : T.data.toList = kd.data.toList ++ 32 :: (Lib.itoa key.size ++ 32 :: key.data.toList)) (hl : (bs ++ lineM kd.data.toList key.data.toList vs).length ≤ 140737488355328) : bs.length + T.size ≤ 140737488355328 := by
  have e : T.size = T.data.toList.length := Array.length_toList.symm
  rw [e, hT]
  unfold lineM at hl
  have : (key.data.toList.length : Int) = key.size := rfl
  rw [this] at hl
  simp only [List.length_append, List.length_cons, List.length_nil] at hl ⊢
  omega
theorem vals_take {vs : List Int} {k : Nat} (h : k < vs.length) : valsM (vs.take (k + 1)) = valsM (vs.take k) ++ 32 :: Lib.itoa (vs.getD k 0) := by
  unfold valsM
  rw [List.take_succ_eq_append_getElem h, List.map_append, List.flatten_append]
  congr 1
  simp [List.getD, List.getElem?_eq_getElem h]
theorem vals_le (vs : List Int) (k : Nat) : (valsM (vs.take k)).length ≤ (valsM vs).length := by
  conv => rhs; rw [← List.take_append_drop k vs]
  simp only [valsM, List.map_append, List.flatten_append, List.length_append]
  omega
set_option maxHeartbeats 4000000 in
set_option maxRecDepth 100000 in
theorem line_is (B b : Nat) (w : World) (bs : Bs) (kd key : ByteArray) (a : Option Addr) (c : Nat) (vs : List Int) (wr : World) (h : Wr B b w wr bs) (ht : Pow B w) (hva : VaIn b wr a vs) (hkd : kd.size ≤ 8) (hk : key.size ≤ 281474976710656) (hvs : ∀ v ∈ vs, -9223372036854775808 ≤ v ∧ v ≤ 9223372036854775807) (hn : vs.length ≤ 17592186044416) (hl : (bs ++ lineM kd.data.toList key.data.toList vs).length ≤ 140737488355328) :
    Calls Tryd.prog 15 #[.pointer (some ⟨b, 0, none⟩), .string kd, .string key, .slice a vs.length c] wr fun e W => e = .returned (.tuple #[]) ∧ Wr B b w W (bs ++ lineM kd.data.toList key.data.toList vs) := by
  have H := hid h
  have HT := hid ht
  have HV := hid hva
  have HVS := hid hvs
  have HL := hid hl
  clear h ht hva hvs hl
  go_enter Tryd.func15, Tryd.ntmps15
  go_wp2_with (first
    | (go_at_call 31; refine (itoa_is _ (by omega) (by omega) HT.out H.out).mono ?_; rintro e W1 ⟨X, rfl, hX, hXs, hW1, hK1⟩; have H1 := hid hW1; have HX := hid hX; have K1 := hid hK1; clear hW1 hX hK1)
    | (go_at_call 30
       obtain ⟨T, hT⟩ : ∃ T, kd ++ { data := #[32] } ++ X ++ { data := #[32] } ++ key = T := ⟨_, rfl⟩
       rw [hT]
       have HTL : Hid (T.data.toList = kd.data.toList ++ 32 :: (Lib.itoa key.size ++ 32 :: key.data.toList)) := by
         show _ = _
         rw [← hT, ← HX.out]
         simp [ByteArray.data_append]
       clear hT
       refine (write_is T H1.out (head_len HTL.out HL.out)).mono ?_
       rintro e W2 ⟨rfl, hW2, hK2⟩
       have H2 := hid hW2
       have KP : Hid (Lib.OthersKept 5 (some b) wr W2) := K1.out.trans hK2
       clear hW2 hK2))
  have HL2 : Hid ((bs ++ T.data.toList ++ valsM vs ++ [10]) = bs ++ lineM kd.data.toList key.data.toList vs) := by
    show _ = _
    rw [HTL.out]
    unfold lineM
    have : (key.data.toList.length : Int) = key.size := rfl
    rw [this]
    simp
  have HV2 : Hid (VaIn b W2 a vs) := by
    have h3 : Lib.OthersKept 5 (some b) wr W2 := KP.out
    exact HV.out.kept h3
  go_wp2_with fail
  go_loopg [23] vs.length (fun g i W => ∃ k : Nat, k ≤ vs.length ∧ vs.length - k ≤ g ∧ i = .int .i64 k ∧ Aside (Wr B b w W (bs ++ T.data.toList ++ valsM (vs.take k))) ∧ Aside (VaIn b W a vs))
  case atStart => exact ⟨0, Nat.zero_le _, by omega, rfl, by
    have e : bs ++ T.data.toList ++ valsM (vs.take 0) = bs ++ T.data.toList := by simp [valsM]
    rw [e]
    exact H2.out, HV2.out⟩
  case round =>
    obtain ⟨k, hk, hg, rfl, WR, VA⟩ := hrel
    by_cases hlt : k < vs.length
    · have hlti : (k : Int) < vs.length := by omega
      obtain ⟨g, o, cs, fr, rfl, hgb, hh, hc⟩ := VA.out k hlt
      obtain ⟨z, hz⟩ : ∃ z, vs.getD k 0 = z := ⟨_, rfl⟩
      have hzm := HVS.out z (by rw [← hz]; simp [List.getD, List.getElem?_eq_getElem hlt])
      rw [hz] at hc
      have HZ := hid hz
      clear hz hh hgb
      obtain ⟨hz1, hz2⟩ := hzm
      go_wp2_with fail
      refine (itoa_is z hz1 hz2 HT.out WR.out).mono ?_
      rintro e W3 ⟨Y, rfl, hY, hYs, hW3, hK3⟩
      have H3 := hid hW3
      have HY := hid hY
      have K3 := hid hK3
      clear hW3 hY hK3
      go_wp2_with fail
      obtain ⟨U, hU⟩ : ∃ U, (⟨#[32]⟩ : ByteArray) ++ Y = U := ⟨_, rfl⟩
      rw [hU]
      have HUL : Hid (U.data.toList = 32 :: Lib.itoa (vs.getD k 0)) := by
        show _ = _
        rw [← hU, HZ.out, ← HY.out]
        simp [ByteArray.data_append]
      clear hU
      have HE : Hid (bs ++ T.data.toList ++ valsM (vs.take k) ++ U.data.toList = bs ++ T.data.toList ++ valsM (vs.take (k + 1))) := by
        show _ = _
        rw [vals_take hlt, HUL.out, List.append_assoc]
      refine (write_is U H3.out (by
        have e : U.size = U.data.toList.length := Array.length_toList.symm
        rw [e]
        have h1 := congrArg List.length HE.out
        have h2 := congrArg List.length HL2.out
        have h3 := HL.out
        have h4 := vals_le vs (k + 1)
        rw [← h2] at h3
        simp only [List.length_append, List.length_cons, List.length_nil] at h1 h3 ⊢
        omega)).mono ?_
      rintro e W4 ⟨rfl, hW4, hK4⟩
      rw [HE.out] at hW4
      have H4 := hid hW4
      have K4 : Hid (Lib.OthersKept 5 (some b) wr W4) := K3.out.trans hK4
      clear hW4 hK4
      go_wp2_with fail
      go_roundg (vs.length - (k + 1))
      case measure => omega
      case rel => exact ⟨k + 1, by omega, by omega, by go_num, H4.out, VA.out.kept K4.out⟩
    · obtain rfl : k = vs.length := by omega
      go_wp2_with fail
      obtain ⟨U, hU⟩ : ∃ U, (⟨#[10]⟩ : ByteArray) = U := ⟨_, rfl⟩
      rw [hU]
      have HE : Hid (bs ++ T.data.toList ++ valsM (vs.take vs.length) ++ U.data.toList = bs ++ lineM kd.data.toList key.data.toList vs) := by
        show _ = _
        rw [← HL2.out, ← hU, List.take_of_length_le (Nat.le_refl _)]
      have hUs : U.size = 1 := by rw [← hU]; rfl
      clear hU
      refine (write_is U WR.out (by
        have h1 := congrArg List.length HE.out
        have h3 := HL.out
        have e : U.size = U.data.toList.length := Array.length_toList.symm
        rw [← h1] at h3
        rw [e]
        simp only [List.length_append] at h3 ⊢
        omega)).mono ?_
      rintro e W4 ⟨rfl, hW4, hK4⟩
      rw [HE.out] at hW4
      have H4 := hid hW4
      clear hW4 hK4
      go_wp2_with fail
      exact bodyPost_end (results_none rfl _ _ _) rfl ⟨rfl, H4.out⟩
end Go.Proofs.YtjeheknhpfkaiaaDoor
