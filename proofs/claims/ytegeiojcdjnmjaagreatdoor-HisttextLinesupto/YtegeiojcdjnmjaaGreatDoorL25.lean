/-
  HisttextLines: lines without tokens change nothing but places.
-/
import Derived.Test.YtegeiojcdjnmjaaGreatDoorL24
import Derived.Test.YtegeiojcdjnmjaaGreatDoorL11
namespace Go.Proofs.YtegeiojcdjnmjaaGreatDoor
set_option linter.unusedVariables false
set_option linter.unusedSimpArgs false
open Go.RowKit

theorem u64_mod (n : Int) (m : Nat) (hm : 0 < m) (hm2 : m ≤ 4294967296) : ∃ N : Nat, N < m ∧ wrap64 ((IntKind.u64.wrap n).tmod m) = N := by
  rw [IntKind.wrap_u64]
  have h0 : 0 ≤ n % 18446744073709551616 := Int.emod_nonneg _ (by decide)
  rw [Int.tmod_eq_emod_of_nonneg h0]
  have h1 := Int.emod_nonneg (n % 18446744073709551616) (show (m : Int) ≠ 0 by omega)
  have h2 := Int.emod_lt_of_pos (n % 18446744073709551616) (show (0 : Int) < m by omega)
  refine ⟨(n % 18446744073709551616 % m).toNat, by omega, ?_⟩
  unfold wrap64
  omega
theorem evs_none (S : Nat → Prop) (w : World) : EvsIn S w (.slice none 0 0) [] := ⟨none, 0, rfl, by simp, fun h => by simp at h⟩
theorem evsEq_refl (l : List MEv) : evsEq l l = true := allEq_refl _ evEq_refl l
theorem replaceAll_is {pad new s : ByteArray} {mx : Int} {W : World} (hp : 1 ≤ pad.size) (hp2 : pad.size ≤ 4) (hn : new.data.toList = 10 :: pad.data.toList) (hs : s.size ≤ 1048576) (hm : W.cell? ⟨0, 0, none⟩ = some (.int .i64 mx)) :
    Calls Tryz.prog 11 #[.string s, .string ⟨#[10]⟩, .string new] W fun e w' => e = .returned (.string ⟨(gP pad.data.toList s.data.toList).toArray⟩) ∧ Below W.heap.size W w' := by
  have hz : new.size = pad.size + 1 := by
    have := congrArg List.length hn
    simp only [Array.length_toList, List.length_cons] at this
    exact this
  have hc := Lib.countB_mul_le ⟨#[10]⟩ (by decide) s.size s (Nat.le_refl _)
  have hc1 : Lib.countB s ⟨#[10]⟩ ≤ s.size := by
    rw [show (⟨#[10]⟩ : ByteArray).size = 1 from rfl, Nat.mul_one] at hc
    exact hc
  have hc2 : Lib.countB s ⟨#[10]⟩ * new.size ≤ s.size * 5 := Nat.mul_le_mul hc1 (by omega)
  refine (Tryz.strings_ReplaceAll s ⟨#[10]⟩ new mx W (by omega) hm (by decide) (by omega)).mono fun e w' h => ⟨?_, h.2⟩
  rw [h.1, hn, replace_gP]
  intro c
  have : pad.data.toList.length = 0 := by rw [c]; rfl
  rw [Array.length_toList] at this
  have h3 : pad.data.size = pad.size := rfl
  omega
theorem gP_le (pad : List UInt8) : ∀ (L : List UInt8), (gP pad L).length ≤ L.length * (pad.length + 1)
  | [] => Nat.zero_le _
  | b :: r => by
    have ih := gP_le pad r
    have e : gP pad (b :: r) = (if b = 10 then 10 :: pad else [b]) ++ gP pad r := rfl
    rw [e, List.length_append, List.length_cons, Nat.succ_mul]
    split
    · simp only [List.length_cons]; omega
    · simp only [List.length_cons, List.length_nil]; omega
theorem gP_size {pad s : ByteArray} (hp : pad.size ≤ 4) (hs : s.size ≤ 1048576) : (⟨(gP pad.data.toList s.data.toList).toArray⟩ : ByteArray).size ≤ 5242880 := by
  have h := gP_le pad.data.toList s.data.toList
  have e1 : s.data.toList.length = s.size := by rw [Array.length_toList]; rfl
  have e2 : pad.data.toList.length = pad.size := by rw [Array.length_toList]; rfl
  have e3 : (⟨(gP pad.data.toList s.data.toList).toArray⟩ : ByteArray).size = (gP pad.data.toList s.data.toList).length := by
    show (gP pad.data.toList s.data.toList).toArray.size = _
    simp
  rw [e1, e2] at h
  rw [e3]
  have h2 : s.size * (pad.size + 1) ≤ 1048576 * 5 := Nat.mul_le_mul hs (by omega)
  omega
/-- Why of what Parse answers. -/
theorem smH_ok {p : Except (Int × Int) (List MEv)} {l : List MEv} (h : SmH (.ok l) p) : p = .ok l := by
  cases p with
  | error e => exact h.elim
  | ok l' => have : l = l' := h; rw [this]
theorem smH_err {p : Except (Int × Int) (List MEv)} {f : Int × Int} (h : SmH (.error f) p) : ∃ a, p = .error (a, f.2) := by
  cases p with
  | ok l' => exact h.elim
  | error e =>
    obtain ⟨a, y⟩ := e
    have : f.2 = y := h
    exact ⟨a, by rw [this]⟩
set_option maxHeartbeats 8000000 in
set_option maxRecDepth 100000 in
theorem lines_0 (s : ByteArray) (k : Int) (w : World) (mx : Int) (te1 : TypeId) (pe1 : Value) (hs : s.size ≤ 1048576) (hmx : w.cell? ⟨0, 0, none⟩ = some (.int .i64 mx)) (hv1 : w.cell? ⟨4, 0, none⟩ = some (.iface te1 pe1)) (hk : wrap64 ((IntKind.u64.wrap k).tmod 3) = 0) :
    Calls Tryz.prog 4 #[.string s, .int .i64 k] w fun e w' => e = .returned (.bool true) ∧ Below w.heap.size w w' := by
  have h0 : 0 < w.heap.size := World.block_lt_of_cell? _ _ hmx
  have h4 : 4 < w.heap.size := World.block_lt_of_cell? _ _ hv1
  have RA : Hid (∀ (W : World) (new : ByteArray), new.data.toList = 10 :: ((⟨#[10]⟩ : ByteArray)).data.toList → Below w.heap.size w W → Calls Tryz.prog 11 #[.string s, .string ⟨#[10]⟩, .string new] W fun e w' => e = .returned (.string ⟨(gP ((⟨#[10]⟩ : ByteArray)).data.toList s.data.toList).toArray⟩) ∧ Below W.heap.size W w') :=
    fun W new hn hb => replaceAll_is (pad := ⟨#[10]⟩) (by decide) (by decide) hn hs ((hb.cell (p := ⟨0, 0, none⟩) h0).trans hmx)
  have PS : Hid (∀ W, Below w.heap.size w W → _) := fun W (hb : Below w.heap.size w W) => parse_is s W te1 pe1 ((hb.cell (p := ⟨4, 0, none⟩) h4).trans hv1)
  have RS : Hid (∀ W, _) := fun W => rparse_is s W
  rw [← parse_alike s] at RS
  have PT : Hid (∀ W, Below w.heap.size w W → _) := fun W (hb : Below w.heap.size w W) => parse_is (padT ⟨#[10]⟩ s) W te1 pe1 ((hb.cell (p := ⟨4, 0, none⟩) h4).trans hv1)
  have hsm := parse_padT (pad := ⟨#[10]⟩) (s := s) (by decide)
  have hbg := parse_big (s := padT ⟨#[10]⟩ s)
  unfold padT at PT hsm hbg
  have BB : Hid (∀ o, Below w.heap.size w (w.alloc o)) := fun o => (Below.refl _ w).alloc (Nat.le_refl _) o
  have hG := gP_size (pad := ⟨#[10]⟩) (by decide) hs
  have hpz : (⟨#[10]⟩ : ByteArray).size ≤ 4 := by decide
  clear hs hmx hv1
  generalize (⟨(gP ((⟨#[10]⟩ : ByteArray)).data.toList s.data.toList).toArray⟩ : ByteArray) = G at *
  cases hO : parseM s with
  | error f =>
    rw [hO] at PS RS hsm
    obtain ⟨fa, fy⟩ := f
    clear hO
    have hse : ((⟨#[10]⟩ : ByteArray) ++ G).size = 1 + G.size := by rw [ByteArray.size_append]; rfl
    by_cases hsz : 20000 < ((⟨#[10]⟩ : ByteArray) ++ G).size
    · have hszi : (20000 : Int) < 1 + (G.size : Int) := by omega
      rw [hbg hsz] at PT
      clear hbg hsm
      go_enter Tryz.func4, Tryz.ntmps4
      go_wp2_with fail
      go_at_call 5
      refine (PS.out _ (BB.out _)).mono ?_
      rintro e w1 ⟨rfl, b1⟩
      have B1 : Hid (Below w.heap.size w w1) := (BB.out _).trans (b1.mono (BB.out _).size)
      clear b1 BB
      go_wp2_with fail
      go_at_call 6
      refine (RS.out w1).mono ?_
      rintro e w2 ⟨rfl, b2⟩
      have B2 : Hid (Below w.heap.size w w2) := B1.out.trans (b2.mono B1.out.size)
      clear b2 B1
      go_wp2_with fail
      go_at_call 7
      refine (is_fault fa fy w2).mono ?_
      rintro e w3 ⟨rfl, b3⟩
      have B3 : Hid (Below w.heap.size w w3) := B2.out.trans (b3.mono B2.out.size)
      clear b3 B2
      go_wp2_with fail
      go_at_call 8
      refine (same_any _ _ [] [] _ (evs_none Any _) (evs_none Any _)).mono ?_
      rintro e w4 ⟨rfl, b4⟩
      rw [evsEq_refl]
      have B4 : Hid (Below w.heap.size w w4) := B3.out.trans (b4.mono B3.out.size)
      clear b4 B3
      go_wp2_with fail
      go_at_call 11
      refine (RA.out w4 _ (by decide) B4.out).mono ?_
      rintro e w5 ⟨rfl, b5⟩
      have B5 : Hid (Below w.heap.size w w5) := B4.out.trans (b5.mono B4.out.size)
      clear b5 B4
      go_wp2_with fail
      refine (PT.out w5 B5.out).mono ?_
      rintro e w6 ⟨rfl, b6⟩
      have B6 : Hid (Below w.heap.size w w6) := B5.out.trans (b6.mono B5.out.size)
      clear b6 B5
      go_wp2_with fail
      go_at_call 7
      refine (is_fault 0 4 w6).mono ?_
      rintro e w7 ⟨rfl, b7⟩
      go_wp2_with fail
      go_ret
      exact ⟨rfl, B6.out.trans (b7.mono B6.out.size)⟩
    · have hszi : ¬ (20000 : Int) < 1 + (G.size : Int) := by omega
      obtain ⟨ga, hg⟩ := smH_err (hsm (by omega))
      rw [hg] at PT
      clear hbg hsm hg
      have hyy : (fy == fy) = true := by simp
      go_enter Tryz.func4, Tryz.ntmps4
      go_wp2_with fail
      go_at_call 5
      refine (PS.out _ (BB.out _)).mono ?_
      rintro e w1 ⟨rfl, b1⟩
      have B1 : Hid (Below w.heap.size w w1) := (BB.out _).trans (b1.mono (BB.out _).size)
      clear b1 BB
      go_wp2_with fail
      go_at_call 6
      refine (RS.out w1).mono ?_
      rintro e w2 ⟨rfl, b2⟩
      have B2 : Hid (Below w.heap.size w w2) := B1.out.trans (b2.mono B1.out.size)
      clear b2 B1
      go_wp2_with fail
      go_at_call 7
      refine (is_fault fa fy w2).mono ?_
      rintro e w3 ⟨rfl, b3⟩
      have B3 : Hid (Below w.heap.size w w3) := B2.out.trans (b3.mono B2.out.size)
      clear b3 B2
      go_wp2_with fail
      go_at_call 8
      refine (same_any _ _ [] [] _ (evs_none Any _) (evs_none Any _)).mono ?_
      rintro e w4 ⟨rfl, b4⟩
      rw [evsEq_refl]
      have B4 : Hid (Below w.heap.size w w4) := B3.out.trans (b4.mono B3.out.size)
      clear b4 B3
      go_wp2_with fail
      go_at_call 11
      refine (RA.out w4 _ (by decide) B4.out).mono ?_
      rintro e w5 ⟨rfl, b5⟩
      have B5 : Hid (Below w.heap.size w w5) := B4.out.trans (b5.mono B4.out.size)
      clear b5 B4
      go_wp2_with fail
      refine (PT.out w5 B5.out).mono ?_
      rintro e w6 ⟨rfl, b6⟩
      have B6 : Hid (Below w.heap.size w w6) := B5.out.trans (b6.mono B5.out.size)
      clear b6 B5
      go_wp2_with fail
      go_at_call 12
      refine (why_fault ga fy w6).mono ?_
      rintro e w7 ⟨rfl, b7⟩
      have B7 : Hid (Below w.heap.size w w7) := B6.out.trans (b7.mono B6.out.size)
      clear b7 B6
      go_wp2_with fail
      go_at_call 8
      refine (same_any _ _ [] [] _ (evs_none Any _) (evs_none Any _)).mono ?_
      rintro e w8 ⟨rfl, b8⟩
      rw [evsEq_refl]
      go_wp2_with fail
      go_ret
      exact ⟨rfl, B7.out.trans (b8.mono B7.out.size)⟩
  | ok l =>
    rw [hO] at PS RS hsm
    clear hO
    have hse : ((⟨#[10]⟩ : ByteArray) ++ G).size = 1 + G.size := by rw [ByteArray.size_append]; rfl
    by_cases hsz : 20000 < ((⟨#[10]⟩ : ByteArray) ++ G).size
    · have hszi : (20000 : Int) < 1 + (G.size : Int) := by omega
      rw [hbg hsz] at PT
      clear hbg hsm
      go_enter Tryz.func4, Tryz.ntmps4
      go_wp2_with fail
      go_at_call 5
      refine (PS.out _ (BB.out _)).mono ?_
      rintro e w1 ⟨⟨v, rfl, hv1⟩, b1⟩
      obtain ⟨va, vc, rfl, hx1, hx2⟩ := id hv1
      clear hx1 hx2
      have V1 := hid hv1
      have B1 : Hid (Below w.heap.size w w1) := (BB.out _).trans (b1.mono (BB.out _).size)
      clear hv1 b1 BB
      go_wp2_with fail
      go_at_call 6
      refine (RS.out w1).mono ?_
      rintro e w2 ⟨⟨v', rfl, hv2⟩, b2⟩
      obtain ⟨ua, uc, rfl, hx1, hx2⟩ := id hv2
      clear hx1 hx2
      have V2 := hid (hv2.keep (T := Any) (fun _ _ _ => rfl) (fun _ _ _ => trivial))
      have V1b := hid (V1.out.keep (T := Any) (keeps_below b2) (fun _ _ _ => trivial))
      have B2 : Hid (Below w.heap.size w w2) := B1.out.trans (b2.mono B1.out.size)
      clear hv2 b2 V1 B1
      go_wp2_with fail
      go_at_call 7
      refine (is_nil w2).mono ?_
      rintro e w3 ⟨rfl, b3⟩
      have V2b := hid (V2.out.keep (T := Any) (keeps_below b3) (fun _ _ _ => trivial))
      have V1c := hid (V1b.out.keep (T := Any) (keeps_below b3) (fun _ _ _ => trivial))
      have B3 : Hid (Below w.heap.size w w3) := B2.out.trans (b3.mono B2.out.size)
      clear b3 V2 V1b B2
      go_wp2_with fail
      go_at_call 8
      refine (same_any _ _ l l _ V1c.out V2b.out).mono ?_
      rintro e w4 ⟨rfl, b4⟩
      rw [evsEq_refl]
      have V4 := hid (V1c.out.keep (T := Any) (keeps_below b4) (fun _ _ _ => trivial))
      have B4 : Hid (Below w.heap.size w w4) := B3.out.trans (b4.mono B3.out.size)
      clear b4 B3 V1c V2b
      go_wp2_with fail
      go_at_call 11
      refine (RA.out w4 _ (by decide) B4.out).mono ?_
      rintro e w5 ⟨rfl, b5⟩
      have V5 := hid (V4.out.keep (T := Any) (keeps_below b5) (fun _ _ _ => trivial))
      have B5 : Hid (Below w.heap.size w w5) := B4.out.trans (b5.mono B4.out.size)
      clear b5 B4 V4
      go_wp2_with fail
      refine (PT.out w5 B5.out).mono ?_
      rintro e w6 ⟨rfl, b6⟩
      have B6 : Hid (Below w.heap.size w w6) := B5.out.trans (b6.mono B5.out.size)
      clear b6 B5
      go_wp2_with fail
      go_at_call 7
      refine (is_fault 0 4 w6).mono ?_
      rintro e w7 ⟨rfl, b7⟩
      go_wp2_with fail
      go_ret
      exact ⟨rfl, B6.out.trans (b7.mono B6.out.size)⟩
    · have hszi : ¬ (20000 : Int) < 1 + (G.size : Int) := by omega
      rw [smH_ok (hsm (by omega))] at PT
      clear hbg hsm
      go_enter Tryz.func4, Tryz.ntmps4
      go_wp2_with fail
      go_at_call 5
      refine (PS.out _ (BB.out _)).mono ?_
      rintro e w1 ⟨⟨v, rfl, hv1⟩, b1⟩
      obtain ⟨va, vc, rfl, hx1, hx2⟩ := id hv1
      clear hx1 hx2
      have V1 := hid hv1
      have B1 : Hid (Below w.heap.size w w1) := (BB.out _).trans (b1.mono (BB.out _).size)
      clear hv1 b1 BB
      go_wp2_with fail
      go_at_call 6
      refine (RS.out w1).mono ?_
      rintro e w2 ⟨⟨v', rfl, hv2⟩, b2⟩
      obtain ⟨ua, uc, rfl, hx1, hx2⟩ := id hv2
      clear hx1 hx2
      have V2 := hid (hv2.keep (T := Any) (fun _ _ _ => rfl) (fun _ _ _ => trivial))
      have V1b := hid (V1.out.keep (T := Any) (keeps_below b2) (fun _ _ _ => trivial))
      have B2 : Hid (Below w.heap.size w w2) := B1.out.trans (b2.mono B1.out.size)
      clear hv2 b2 V1 B1
      go_wp2_with fail
      go_at_call 7
      refine (is_nil w2).mono ?_
      rintro e w3 ⟨rfl, b3⟩
      have V2b := hid (V2.out.keep (T := Any) (keeps_below b3) (fun _ _ _ => trivial))
      have V1c := hid (V1b.out.keep (T := Any) (keeps_below b3) (fun _ _ _ => trivial))
      have B3 : Hid (Below w.heap.size w w3) := B2.out.trans (b3.mono B2.out.size)
      clear b3 V2 V1b B2
      go_wp2_with fail
      go_at_call 8
      refine (same_any _ _ l l _ V1c.out V2b.out).mono ?_
      rintro e w4 ⟨rfl, b4⟩
      rw [evsEq_refl]
      have V4 := hid (V1c.out.keep (T := Any) (keeps_below b4) (fun _ _ _ => trivial))
      have B4 : Hid (Below w.heap.size w w4) := B3.out.trans (b4.mono B3.out.size)
      clear b4 B3 V1c V2b
      go_wp2_with fail
      go_at_call 11
      refine (RA.out w4 _ (by decide) B4.out).mono ?_
      rintro e w5 ⟨rfl, b5⟩
      have V5 := hid (V4.out.keep (T := Any) (keeps_below b5) (fun _ _ _ => trivial))
      have B5 : Hid (Below w.heap.size w w5) := B4.out.trans (b5.mono B4.out.size)
      clear b5 B4 V4
      go_wp2_with fail
      refine (PT.out w5 B5.out).mono ?_
      rintro e w6 ⟨⟨u, rfl, hu⟩, b6⟩
      obtain ⟨xa, xc, rfl, hx1, hx2⟩ := id hu
      clear hx1 hx2
      have U6 := hid (hu.keep (T := Any) (fun _ _ _ => rfl) (fun _ _ _ => trivial))
      have V6 := hid (V5.out.keep (T := Any) (keeps_below b6) (fun _ _ _ => trivial))
      have B6 : Hid (Below w.heap.size w w6) := B5.out.trans (b6.mono B5.out.size)
      clear b6 B5 hu V5
      go_wp2_with fail
      go_at_call 12
      refine (why_nil w6).mono ?_
      rintro e w7 ⟨rfl, b7⟩
      have U7 := hid (U6.out.keep (T := Any) (keeps_below b7) (fun _ _ _ => trivial))
      have V7 := hid (V6.out.keep (T := Any) (keeps_below b7) (fun _ _ _ => trivial))
      have B7 : Hid (Below w.heap.size w w7) := B6.out.trans (b7.mono B6.out.size)
      clear b7 B6 U6 V6
      go_wp2_with fail
      go_at_call 8
      refine (same_any _ _ l l _ V7.out U7.out).mono ?_
      rintro e w8 ⟨rfl, b8⟩
      rw [evsEq_refl]
      go_wp2_with fail
      go_ret
      exact ⟨rfl, B7.out.trans (b8.mono B7.out.size)⟩
set_option maxHeartbeats 8000000 in
set_option maxRecDepth 100000 in
theorem lines_1 (s : ByteArray) (k : Int) (w : World) (mx : Int) (te1 : TypeId) (pe1 : Value) (hs : s.size ≤ 1048576) (hmx : w.cell? ⟨0, 0, none⟩ = some (.int .i64 mx)) (hv1 : w.cell? ⟨4, 0, none⟩ = some (.iface te1 pe1)) (hk : wrap64 ((IntKind.u64.wrap k).tmod 3) = 1) :
    Calls Tryz.prog 4 #[.string s, .int .i64 k] w fun e w' => e = .returned (.bool true) ∧ Below w.heap.size w w' := by
  have h0 : 0 < w.heap.size := World.block_lt_of_cell? _ _ hmx
  have h4 : 4 < w.heap.size := World.block_lt_of_cell? _ _ hv1
  have RA : Hid (∀ (W : World) (new : ByteArray), new.data.toList = 10 :: ((⟨#[32, 10]⟩ : ByteArray)).data.toList → Below w.heap.size w W → Calls Tryz.prog 11 #[.string s, .string ⟨#[10]⟩, .string new] W fun e w' => e = .returned (.string ⟨(gP ((⟨#[32, 10]⟩ : ByteArray)).data.toList s.data.toList).toArray⟩) ∧ Below W.heap.size W w') :=
    fun W new hn hb => replaceAll_is (pad := ⟨#[32, 10]⟩) (by decide) (by decide) hn hs ((hb.cell (p := ⟨0, 0, none⟩) h0).trans hmx)
  have PS : Hid (∀ W, Below w.heap.size w W → _) := fun W (hb : Below w.heap.size w W) => parse_is s W te1 pe1 ((hb.cell (p := ⟨4, 0, none⟩) h4).trans hv1)
  have RS : Hid (∀ W, _) := fun W => rparse_is s W
  rw [← parse_alike s] at RS
  have PT : Hid (∀ W, Below w.heap.size w W → _) := fun W (hb : Below w.heap.size w W) => parse_is (padT ⟨#[32, 10]⟩ s) W te1 pe1 ((hb.cell (p := ⟨4, 0, none⟩) h4).trans hv1)
  have hsm := parse_padT (pad := ⟨#[32, 10]⟩) (s := s) (by decide)
  have hbg := parse_big (s := padT ⟨#[32, 10]⟩ s)
  unfold padT at PT hsm hbg
  have BB : Hid (∀ o, Below w.heap.size w (w.alloc o)) := fun o => (Below.refl _ w).alloc (Nat.le_refl _) o
  have hG := gP_size (pad := ⟨#[32, 10]⟩) (by decide) hs
  have hpz : (⟨#[32, 10]⟩ : ByteArray).size ≤ 4 := by decide
  clear hs hmx hv1
  generalize (⟨(gP ((⟨#[32, 10]⟩ : ByteArray)).data.toList s.data.toList).toArray⟩ : ByteArray) = G at *
  cases hO : parseM s with
  | error f =>
    rw [hO] at PS RS hsm
    obtain ⟨fa, fy⟩ := f
    clear hO
    have hse : ((⟨#[32, 10]⟩ : ByteArray) ++ G).size = 2 + G.size := by rw [ByteArray.size_append]; rfl
    by_cases hsz : 20000 < ((⟨#[32, 10]⟩ : ByteArray) ++ G).size
    · have hszi : (20000 : Int) < 2 + (G.size : Int) := by omega
      rw [hbg hsz] at PT
      clear hbg hsm
      go_enter Tryz.func4, Tryz.ntmps4
      go_wp2_with fail
      go_at_call 5
      refine (PS.out _ (BB.out _)).mono ?_
      rintro e w1 ⟨rfl, b1⟩
      have B1 : Hid (Below w.heap.size w w1) := (BB.out _).trans (b1.mono (BB.out _).size)
      clear b1 BB
      go_wp2_with fail
      go_at_call 6
      refine (RS.out w1).mono ?_
      rintro e w2 ⟨rfl, b2⟩
      have B2 : Hid (Below w.heap.size w w2) := B1.out.trans (b2.mono B1.out.size)
      clear b2 B1
      go_wp2_with fail
      go_at_call 7
      refine (is_fault fa fy w2).mono ?_
      rintro e w3 ⟨rfl, b3⟩
      have B3 : Hid (Below w.heap.size w w3) := B2.out.trans (b3.mono B2.out.size)
      clear b3 B2
      go_wp2_with fail
      go_at_call 8
      refine (same_any _ _ [] [] _ (evs_none Any _) (evs_none Any _)).mono ?_
      rintro e w4 ⟨rfl, b4⟩
      rw [evsEq_refl]
      have B4 : Hid (Below w.heap.size w w4) := B3.out.trans (b4.mono B3.out.size)
      clear b4 B3
      go_wp2_with fail
      go_at_call 11
      refine (RA.out w4 _ (by decide) B4.out).mono ?_
      rintro e w5 ⟨rfl, b5⟩
      have B5 : Hid (Below w.heap.size w w5) := B4.out.trans (b5.mono B4.out.size)
      clear b5 B4
      go_wp2_with fail
      refine (PT.out w5 B5.out).mono ?_
      rintro e w6 ⟨rfl, b6⟩
      have B6 : Hid (Below w.heap.size w w6) := B5.out.trans (b6.mono B5.out.size)
      clear b6 B5
      go_wp2_with fail
      go_at_call 7
      refine (is_fault 0 4 w6).mono ?_
      rintro e w7 ⟨rfl, b7⟩
      go_wp2_with fail
      go_ret
      exact ⟨rfl, B6.out.trans (b7.mono B6.out.size)⟩
    · have hszi : ¬ (20000 : Int) < 2 + (G.size : Int) := by omega
      obtain ⟨ga, hg⟩ := smH_err (hsm (by omega))
      rw [hg] at PT
      clear hbg hsm hg
      have hyy : (fy == fy) = true := by simp
      go_enter Tryz.func4, Tryz.ntmps4
      go_wp2_with fail
      go_at_call 5
      refine (PS.out _ (BB.out _)).mono ?_
      rintro e w1 ⟨rfl, b1⟩
      have B1 : Hid (Below w.heap.size w w1) := (BB.out _).trans (b1.mono (BB.out _).size)
      clear b1 BB
      go_wp2_with fail
      go_at_call 6
      refine (RS.out w1).mono ?_
      rintro e w2 ⟨rfl, b2⟩
      have B2 : Hid (Below w.heap.size w w2) := B1.out.trans (b2.mono B1.out.size)
      clear b2 B1
      go_wp2_with fail
      go_at_call 7
      refine (is_fault fa fy w2).mono ?_
      rintro e w3 ⟨rfl, b3⟩
      have B3 : Hid (Below w.heap.size w w3) := B2.out.trans (b3.mono B2.out.size)
      clear b3 B2
      go_wp2_with fail
      go_at_call 8
      refine (same_any _ _ [] [] _ (evs_none Any _) (evs_none Any _)).mono ?_
      rintro e w4 ⟨rfl, b4⟩
      rw [evsEq_refl]
      have B4 : Hid (Below w.heap.size w w4) := B3.out.trans (b4.mono B3.out.size)
      clear b4 B3
      go_wp2_with fail
      go_at_call 11
      refine (RA.out w4 _ (by decide) B4.out).mono ?_
      rintro e w5 ⟨rfl, b5⟩
      have B5 : Hid (Below w.heap.size w w5) := B4.out.trans (b5.mono B4.out.size)
      clear b5 B4
      go_wp2_with fail
      refine (PT.out w5 B5.out).mono ?_
      rintro e w6 ⟨rfl, b6⟩
      have B6 : Hid (Below w.heap.size w w6) := B5.out.trans (b6.mono B5.out.size)
      clear b6 B5
      go_wp2_with fail
      go_at_call 12
      refine (why_fault ga fy w6).mono ?_
      rintro e w7 ⟨rfl, b7⟩
      have B7 : Hid (Below w.heap.size w w7) := B6.out.trans (b7.mono B6.out.size)
      clear b7 B6
      go_wp2_with fail
      go_at_call 8
      refine (same_any _ _ [] [] _ (evs_none Any _) (evs_none Any _)).mono ?_
      rintro e w8 ⟨rfl, b8⟩
      rw [evsEq_refl]
      go_wp2_with fail
      go_ret
      exact ⟨rfl, B7.out.trans (b8.mono B7.out.size)⟩
  | ok l =>
    rw [hO] at PS RS hsm
    clear hO
    have hse : ((⟨#[32, 10]⟩ : ByteArray) ++ G).size = 2 + G.size := by rw [ByteArray.size_append]; rfl
    by_cases hsz : 20000 < ((⟨#[32, 10]⟩ : ByteArray) ++ G).size
    · have hszi : (20000 : Int) < 2 + (G.size : Int) := by omega
      rw [hbg hsz] at PT
      clear hbg hsm
      go_enter Tryz.func4, Tryz.ntmps4
      go_wp2_with fail
      go_at_call 5
      refine (PS.out _ (BB.out _)).mono ?_
      rintro e w1 ⟨⟨v, rfl, hv1⟩, b1⟩
      obtain ⟨va, vc, rfl, hx1, hx2⟩ := id hv1
      clear hx1 hx2
      have V1 := hid hv1
      have B1 : Hid (Below w.heap.size w w1) := (BB.out _).trans (b1.mono (BB.out _).size)
      clear hv1 b1 BB
      go_wp2_with fail
      go_at_call 6
      refine (RS.out w1).mono ?_
      rintro e w2 ⟨⟨v', rfl, hv2⟩, b2⟩
      obtain ⟨ua, uc, rfl, hx1, hx2⟩ := id hv2
      clear hx1 hx2
      have V2 := hid (hv2.keep (T := Any) (fun _ _ _ => rfl) (fun _ _ _ => trivial))
      have V1b := hid (V1.out.keep (T := Any) (keeps_below b2) (fun _ _ _ => trivial))
      have B2 : Hid (Below w.heap.size w w2) := B1.out.trans (b2.mono B1.out.size)
      clear hv2 b2 V1 B1
      go_wp2_with fail
      go_at_call 7
      refine (is_nil w2).mono ?_
      rintro e w3 ⟨rfl, b3⟩
      have V2b := hid (V2.out.keep (T := Any) (keeps_below b3) (fun _ _ _ => trivial))
      have V1c := hid (V1b.out.keep (T := Any) (keeps_below b3) (fun _ _ _ => trivial))
      have B3 : Hid (Below w.heap.size w w3) := B2.out.trans (b3.mono B2.out.size)
      clear b3 V2 V1b B2
      go_wp2_with fail
      go_at_call 8
      refine (same_any _ _ l l _ V1c.out V2b.out).mono ?_
      rintro e w4 ⟨rfl, b4⟩
      rw [evsEq_refl]
      have V4 := hid (V1c.out.keep (T := Any) (keeps_below b4) (fun _ _ _ => trivial))
      have B4 : Hid (Below w.heap.size w w4) := B3.out.trans (b4.mono B3.out.size)
      clear b4 B3 V1c V2b
      go_wp2_with fail
      go_at_call 11
      refine (RA.out w4 _ (by decide) B4.out).mono ?_
      rintro e w5 ⟨rfl, b5⟩
      have V5 := hid (V4.out.keep (T := Any) (keeps_below b5) (fun _ _ _ => trivial))
      have B5 : Hid (Below w.heap.size w w5) := B4.out.trans (b5.mono B4.out.size)
      clear b5 B4 V4
      go_wp2_with fail
      refine (PT.out w5 B5.out).mono ?_
      rintro e w6 ⟨rfl, b6⟩
      have B6 : Hid (Below w.heap.size w w6) := B5.out.trans (b6.mono B5.out.size)
      clear b6 B5
      go_wp2_with fail
      go_at_call 7
      refine (is_fault 0 4 w6).mono ?_
      rintro e w7 ⟨rfl, b7⟩
      go_wp2_with fail
      go_ret
      exact ⟨rfl, B6.out.trans (b7.mono B6.out.size)⟩
    · have hszi : ¬ (20000 : Int) < 2 + (G.size : Int) := by omega
      rw [smH_ok (hsm (by omega))] at PT
      clear hbg hsm
      go_enter Tryz.func4, Tryz.ntmps4
      go_wp2_with fail
      go_at_call 5
      refine (PS.out _ (BB.out _)).mono ?_
      rintro e w1 ⟨⟨v, rfl, hv1⟩, b1⟩
      obtain ⟨va, vc, rfl, hx1, hx2⟩ := id hv1
      clear hx1 hx2
      have V1 := hid hv1
      have B1 : Hid (Below w.heap.size w w1) := (BB.out _).trans (b1.mono (BB.out _).size)
      clear hv1 b1 BB
      go_wp2_with fail
      go_at_call 6
      refine (RS.out w1).mono ?_
      rintro e w2 ⟨⟨v', rfl, hv2⟩, b2⟩
      obtain ⟨ua, uc, rfl, hx1, hx2⟩ := id hv2
      clear hx1 hx2
      have V2 := hid (hv2.keep (T := Any) (fun _ _ _ => rfl) (fun _ _ _ => trivial))
      have V1b := hid (V1.out.keep (T := Any) (keeps_below b2) (fun _ _ _ => trivial))
      have B2 : Hid (Below w.heap.size w w2) := B1.out.trans (b2.mono B1.out.size)
      clear hv2 b2 V1 B1
      go_wp2_with fail
      go_at_call 7
      refine (is_nil w2).mono ?_
      rintro e w3 ⟨rfl, b3⟩
      have V2b := hid (V2.out.keep (T := Any) (keeps_below b3) (fun _ _ _ => trivial))
      have V1c := hid (V1b.out.keep (T := Any) (keeps_below b3) (fun _ _ _ => trivial))
      have B3 : Hid (Below w.heap.size w w3) := B2.out.trans (b3.mono B2.out.size)
      clear b3 V2 V1b B2
      go_wp2_with fail
      go_at_call 8
      refine (same_any _ _ l l _ V1c.out V2b.out).mono ?_
      rintro e w4 ⟨rfl, b4⟩
      rw [evsEq_refl]
      have V4 := hid (V1c.out.keep (T := Any) (keeps_below b4) (fun _ _ _ => trivial))
      have B4 : Hid (Below w.heap.size w w4) := B3.out.trans (b4.mono B3.out.size)
      clear b4 B3 V1c V2b
      go_wp2_with fail
      go_at_call 11
      refine (RA.out w4 _ (by decide) B4.out).mono ?_
      rintro e w5 ⟨rfl, b5⟩
      have V5 := hid (V4.out.keep (T := Any) (keeps_below b5) (fun _ _ _ => trivial))
      have B5 : Hid (Below w.heap.size w w5) := B4.out.trans (b5.mono B4.out.size)
      clear b5 B4 V4
      go_wp2_with fail
      refine (PT.out w5 B5.out).mono ?_
      rintro e w6 ⟨⟨u, rfl, hu⟩, b6⟩
      obtain ⟨xa, xc, rfl, hx1, hx2⟩ := id hu
      clear hx1 hx2
      have U6 := hid (hu.keep (T := Any) (fun _ _ _ => rfl) (fun _ _ _ => trivial))
      have V6 := hid (V5.out.keep (T := Any) (keeps_below b6) (fun _ _ _ => trivial))
      have B6 : Hid (Below w.heap.size w w6) := B5.out.trans (b6.mono B5.out.size)
      clear b6 B5 hu V5
      go_wp2_with fail
      go_at_call 12
      refine (why_nil w6).mono ?_
      rintro e w7 ⟨rfl, b7⟩
      have U7 := hid (U6.out.keep (T := Any) (keeps_below b7) (fun _ _ _ => trivial))
      have V7 := hid (V6.out.keep (T := Any) (keeps_below b7) (fun _ _ _ => trivial))
      have B7 : Hid (Below w.heap.size w w7) := B6.out.trans (b7.mono B6.out.size)
      clear b7 B6 U6 V6
      go_wp2_with fail
      go_at_call 8
      refine (same_any _ _ l l _ V7.out U7.out).mono ?_
      rintro e w8 ⟨rfl, b8⟩
      rw [evsEq_refl]
      go_wp2_with fail
      go_ret
      exact ⟨rfl, B7.out.trans (b8.mono B7.out.size)⟩
set_option maxHeartbeats 8000000 in
set_option maxRecDepth 100000 in
theorem lines_2 (s : ByteArray) (k : Int) (w : World) (mx : Int) (te1 : TypeId) (pe1 : Value) (hs : s.size ≤ 1048576) (hmx : w.cell? ⟨0, 0, none⟩ = some (.int .i64 mx)) (hv1 : w.cell? ⟨4, 0, none⟩ = some (.iface te1 pe1)) (hk : wrap64 ((IntKind.u64.wrap k).tmod 3) = 2) :
    Calls Tryz.prog 4 #[.string s, .int .i64 k] w fun e w' => e = .returned (.bool true) ∧ Below w.heap.size w w' := by
  have h0 : 0 < w.heap.size := World.block_lt_of_cell? _ _ hmx
  have h4 : 4 < w.heap.size := World.block_lt_of_cell? _ _ hv1
  have RA : Hid (∀ (W : World) (new : ByteArray), new.data.toList = 10 :: ((⟨#[10, 32, 10, 10]⟩ : ByteArray)).data.toList → Below w.heap.size w W → Calls Tryz.prog 11 #[.string s, .string ⟨#[10]⟩, .string new] W fun e w' => e = .returned (.string ⟨(gP ((⟨#[10, 32, 10, 10]⟩ : ByteArray)).data.toList s.data.toList).toArray⟩) ∧ Below W.heap.size W w') :=
    fun W new hn hb => replaceAll_is (pad := ⟨#[10, 32, 10, 10]⟩) (by decide) (by decide) hn hs ((hb.cell (p := ⟨0, 0, none⟩) h0).trans hmx)
  have PS : Hid (∀ W, Below w.heap.size w W → _) := fun W (hb : Below w.heap.size w W) => parse_is s W te1 pe1 ((hb.cell (p := ⟨4, 0, none⟩) h4).trans hv1)
  have RS : Hid (∀ W, _) := fun W => rparse_is s W
  rw [← parse_alike s] at RS
  have PT : Hid (∀ W, Below w.heap.size w W → _) := fun W (hb : Below w.heap.size w W) => parse_is (padT ⟨#[10, 32, 10, 10]⟩ s) W te1 pe1 ((hb.cell (p := ⟨4, 0, none⟩) h4).trans hv1)
  have hsm := parse_padT (pad := ⟨#[10, 32, 10, 10]⟩) (s := s) (by decide)
  have hbg := parse_big (s := padT ⟨#[10, 32, 10, 10]⟩ s)
  unfold padT at PT hsm hbg
  have BB : Hid (∀ o, Below w.heap.size w (w.alloc o)) := fun o => (Below.refl _ w).alloc (Nat.le_refl _) o
  have hG := gP_size (pad := ⟨#[10, 32, 10, 10]⟩) (by decide) hs
  have hpz : (⟨#[10, 32, 10, 10]⟩ : ByteArray).size ≤ 4 := by decide
  clear hs hmx hv1
  generalize (⟨(gP ((⟨#[10, 32, 10, 10]⟩ : ByteArray)).data.toList s.data.toList).toArray⟩ : ByteArray) = G at *
  cases hO : parseM s with
  | error f =>
    rw [hO] at PS RS hsm
    obtain ⟨fa, fy⟩ := f
    clear hO
    have hse : ((⟨#[10, 32, 10, 10]⟩ : ByteArray) ++ G).size = 4 + G.size := by rw [ByteArray.size_append]; rfl
    by_cases hsz : 20000 < ((⟨#[10, 32, 10, 10]⟩ : ByteArray) ++ G).size
    · have hszi : (20000 : Int) < 4 + (G.size : Int) := by omega
      rw [hbg hsz] at PT
      clear hbg hsm
      go_enter Tryz.func4, Tryz.ntmps4
      go_wp2_with fail
      go_at_call 5
      refine (PS.out _ (BB.out _)).mono ?_
      rintro e w1 ⟨rfl, b1⟩
      have B1 : Hid (Below w.heap.size w w1) := (BB.out _).trans (b1.mono (BB.out _).size)
      clear b1 BB
      go_wp2_with fail
      go_at_call 6
      refine (RS.out w1).mono ?_
      rintro e w2 ⟨rfl, b2⟩
      have B2 : Hid (Below w.heap.size w w2) := B1.out.trans (b2.mono B1.out.size)
      clear b2 B1
      go_wp2_with fail
      go_at_call 7
      refine (is_fault fa fy w2).mono ?_
      rintro e w3 ⟨rfl, b3⟩
      have B3 : Hid (Below w.heap.size w w3) := B2.out.trans (b3.mono B2.out.size)
      clear b3 B2
      go_wp2_with fail
      go_at_call 8
      refine (same_any _ _ [] [] _ (evs_none Any _) (evs_none Any _)).mono ?_
      rintro e w4 ⟨rfl, b4⟩
      rw [evsEq_refl]
      have B4 : Hid (Below w.heap.size w w4) := B3.out.trans (b4.mono B3.out.size)
      clear b4 B3
      go_wp2_with fail
      go_at_call 11
      refine (RA.out w4 _ (by decide) B4.out).mono ?_
      rintro e w5 ⟨rfl, b5⟩
      have B5 : Hid (Below w.heap.size w w5) := B4.out.trans (b5.mono B4.out.size)
      clear b5 B4
      go_wp2_with fail
      refine (PT.out w5 B5.out).mono ?_
      rintro e w6 ⟨rfl, b6⟩
      have B6 : Hid (Below w.heap.size w w6) := B5.out.trans (b6.mono B5.out.size)
      clear b6 B5
      go_wp2_with fail
      go_at_call 7
      refine (is_fault 0 4 w6).mono ?_
      rintro e w7 ⟨rfl, b7⟩
      go_wp2_with fail
      go_ret
      exact ⟨rfl, B6.out.trans (b7.mono B6.out.size)⟩
    · have hszi : ¬ (20000 : Int) < 4 + (G.size : Int) := by omega
      obtain ⟨ga, hg⟩ := smH_err (hsm (by omega))
      rw [hg] at PT
      clear hbg hsm hg
      have hyy : (fy == fy) = true := by simp
      go_enter Tryz.func4, Tryz.ntmps4
      go_wp2_with fail
      go_at_call 5
      refine (PS.out _ (BB.out _)).mono ?_
      rintro e w1 ⟨rfl, b1⟩
      have B1 : Hid (Below w.heap.size w w1) := (BB.out _).trans (b1.mono (BB.out _).size)
      clear b1 BB
      go_wp2_with fail
      go_at_call 6
      refine (RS.out w1).mono ?_
      rintro e w2 ⟨rfl, b2⟩
      have B2 : Hid (Below w.heap.size w w2) := B1.out.trans (b2.mono B1.out.size)
      clear b2 B1
      go_wp2_with fail
      go_at_call 7
      refine (is_fault fa fy w2).mono ?_
      rintro e w3 ⟨rfl, b3⟩
      have B3 : Hid (Below w.heap.size w w3) := B2.out.trans (b3.mono B2.out.size)
      clear b3 B2
      go_wp2_with fail
      go_at_call 8
      refine (same_any _ _ [] [] _ (evs_none Any _) (evs_none Any _)).mono ?_
      rintro e w4 ⟨rfl, b4⟩
      rw [evsEq_refl]
      have B4 : Hid (Below w.heap.size w w4) := B3.out.trans (b4.mono B3.out.size)
      clear b4 B3
      go_wp2_with fail
      go_at_call 11
      refine (RA.out w4 _ (by decide) B4.out).mono ?_
      rintro e w5 ⟨rfl, b5⟩
      have B5 : Hid (Below w.heap.size w w5) := B4.out.trans (b5.mono B4.out.size)
      clear b5 B4
      go_wp2_with fail
      refine (PT.out w5 B5.out).mono ?_
      rintro e w6 ⟨rfl, b6⟩
      have B6 : Hid (Below w.heap.size w w6) := B5.out.trans (b6.mono B5.out.size)
      clear b6 B5
      go_wp2_with fail
      go_at_call 12
      refine (why_fault ga fy w6).mono ?_
      rintro e w7 ⟨rfl, b7⟩
      have B7 : Hid (Below w.heap.size w w7) := B6.out.trans (b7.mono B6.out.size)
      clear b7 B6
      go_wp2_with fail
      go_at_call 8
      refine (same_any _ _ [] [] _ (evs_none Any _) (evs_none Any _)).mono ?_
      rintro e w8 ⟨rfl, b8⟩
      rw [evsEq_refl]
      go_wp2_with fail
      go_ret
      exact ⟨rfl, B7.out.trans (b8.mono B7.out.size)⟩
  | ok l =>
    rw [hO] at PS RS hsm
    clear hO
    have hse : ((⟨#[10, 32, 10, 10]⟩ : ByteArray) ++ G).size = 4 + G.size := by rw [ByteArray.size_append]; rfl
    by_cases hsz : 20000 < ((⟨#[10, 32, 10, 10]⟩ : ByteArray) ++ G).size
    · have hszi : (20000 : Int) < 4 + (G.size : Int) := by omega
      rw [hbg hsz] at PT
      clear hbg hsm
      go_enter Tryz.func4, Tryz.ntmps4
      go_wp2_with fail
      go_at_call 5
      refine (PS.out _ (BB.out _)).mono ?_
      rintro e w1 ⟨⟨v, rfl, hv1⟩, b1⟩
      obtain ⟨va, vc, rfl, hx1, hx2⟩ := id hv1
      clear hx1 hx2
      have V1 := hid hv1
      have B1 : Hid (Below w.heap.size w w1) := (BB.out _).trans (b1.mono (BB.out _).size)
      clear hv1 b1 BB
      go_wp2_with fail
      go_at_call 6
      refine (RS.out w1).mono ?_
      rintro e w2 ⟨⟨v', rfl, hv2⟩, b2⟩
      obtain ⟨ua, uc, rfl, hx1, hx2⟩ := id hv2
      clear hx1 hx2
      have V2 := hid (hv2.keep (T := Any) (fun _ _ _ => rfl) (fun _ _ _ => trivial))
      have V1b := hid (V1.out.keep (T := Any) (keeps_below b2) (fun _ _ _ => trivial))
      have B2 : Hid (Below w.heap.size w w2) := B1.out.trans (b2.mono B1.out.size)
      clear hv2 b2 V1 B1
      go_wp2_with fail
      go_at_call 7
      refine (is_nil w2).mono ?_
      rintro e w3 ⟨rfl, b3⟩
      have V2b := hid (V2.out.keep (T := Any) (keeps_below b3) (fun _ _ _ => trivial))
      have V1c := hid (V1b.out.keep (T := Any) (keeps_below b3) (fun _ _ _ => trivial))
      have B3 : Hid (Below w.heap.size w w3) := B2.out.trans (b3.mono B2.out.size)
      clear b3 V2 V1b B2
      go_wp2_with fail
      go_at_call 8
      refine (same_any _ _ l l _ V1c.out V2b.out).mono ?_
      rintro e w4 ⟨rfl, b4⟩
      rw [evsEq_refl]
      have V4 := hid (V1c.out.keep (T := Any) (keeps_below b4) (fun _ _ _ => trivial))
      have B4 : Hid (Below w.heap.size w w4) := B3.out.trans (b4.mono B3.out.size)
      clear b4 B3 V1c V2b
      go_wp2_with fail
      go_at_call 11
      refine (RA.out w4 _ (by decide) B4.out).mono ?_
      rintro e w5 ⟨rfl, b5⟩
      have V5 := hid (V4.out.keep (T := Any) (keeps_below b5) (fun _ _ _ => trivial))
      have B5 : Hid (Below w.heap.size w w5) := B4.out.trans (b5.mono B4.out.size)
      clear b5 B4 V4
      go_wp2_with fail
      refine (PT.out w5 B5.out).mono ?_
      rintro e w6 ⟨rfl, b6⟩
      have B6 : Hid (Below w.heap.size w w6) := B5.out.trans (b6.mono B5.out.size)
      clear b6 B5
      go_wp2_with fail
      go_at_call 7
      refine (is_fault 0 4 w6).mono ?_
      rintro e w7 ⟨rfl, b7⟩
      go_wp2_with fail
      go_ret
      exact ⟨rfl, B6.out.trans (b7.mono B6.out.size)⟩
    · have hszi : ¬ (20000 : Int) < 4 + (G.size : Int) := by omega
      rw [smH_ok (hsm (by omega))] at PT
      clear hbg hsm
      go_enter Tryz.func4, Tryz.ntmps4
      go_wp2_with fail
      go_at_call 5
      refine (PS.out _ (BB.out _)).mono ?_
      rintro e w1 ⟨⟨v, rfl, hv1⟩, b1⟩
      obtain ⟨va, vc, rfl, hx1, hx2⟩ := id hv1
      clear hx1 hx2
      have V1 := hid hv1
      have B1 : Hid (Below w.heap.size w w1) := (BB.out _).trans (b1.mono (BB.out _).size)
      clear hv1 b1 BB
      go_wp2_with fail
      go_at_call 6
      refine (RS.out w1).mono ?_
      rintro e w2 ⟨⟨v', rfl, hv2⟩, b2⟩
      obtain ⟨ua, uc, rfl, hx1, hx2⟩ := id hv2
      clear hx1 hx2
      have V2 := hid (hv2.keep (T := Any) (fun _ _ _ => rfl) (fun _ _ _ => trivial))
      have V1b := hid (V1.out.keep (T := Any) (keeps_below b2) (fun _ _ _ => trivial))
      have B2 : Hid (Below w.heap.size w w2) := B1.out.trans (b2.mono B1.out.size)
      clear hv2 b2 V1 B1
      go_wp2_with fail
      go_at_call 7
      refine (is_nil w2).mono ?_
      rintro e w3 ⟨rfl, b3⟩
      have V2b := hid (V2.out.keep (T := Any) (keeps_below b3) (fun _ _ _ => trivial))
      have V1c := hid (V1b.out.keep (T := Any) (keeps_below b3) (fun _ _ _ => trivial))
      have B3 : Hid (Below w.heap.size w w3) := B2.out.trans (b3.mono B2.out.size)
      clear b3 V2 V1b B2
      go_wp2_with fail
      go_at_call 8
      refine (same_any _ _ l l _ V1c.out V2b.out).mono ?_
      rintro e w4 ⟨rfl, b4⟩
      rw [evsEq_refl]
      have V4 := hid (V1c.out.keep (T := Any) (keeps_below b4) (fun _ _ _ => trivial))
      have B4 : Hid (Below w.heap.size w w4) := B3.out.trans (b4.mono B3.out.size)
      clear b4 B3 V1c V2b
      go_wp2_with fail
      go_at_call 11
      refine (RA.out w4 _ (by decide) B4.out).mono ?_
      rintro e w5 ⟨rfl, b5⟩
      have V5 := hid (V4.out.keep (T := Any) (keeps_below b5) (fun _ _ _ => trivial))
      have B5 : Hid (Below w.heap.size w w5) := B4.out.trans (b5.mono B4.out.size)
      clear b5 B4 V4
      go_wp2_with fail
      refine (PT.out w5 B5.out).mono ?_
      rintro e w6 ⟨⟨u, rfl, hu⟩, b6⟩
      obtain ⟨xa, xc, rfl, hx1, hx2⟩ := id hu
      clear hx1 hx2
      have U6 := hid (hu.keep (T := Any) (fun _ _ _ => rfl) (fun _ _ _ => trivial))
      have V6 := hid (V5.out.keep (T := Any) (keeps_below b6) (fun _ _ _ => trivial))
      have B6 : Hid (Below w.heap.size w w6) := B5.out.trans (b6.mono B5.out.size)
      clear b6 B5 hu V5
      go_wp2_with fail
      go_at_call 12
      refine (why_nil w6).mono ?_
      rintro e w7 ⟨rfl, b7⟩
      have U7 := hid (U6.out.keep (T := Any) (keeps_below b7) (fun _ _ _ => trivial))
      have V7 := hid (V6.out.keep (T := Any) (keeps_below b7) (fun _ _ _ => trivial))
      have B7 : Hid (Below w.heap.size w w7) := B6.out.trans (b7.mono B6.out.size)
      clear b7 B6 U6 V6
      go_wp2_with fail
      go_at_call 8
      refine (same_any _ _ l l _ V7.out U7.out).mono ?_
      rintro e w8 ⟨rfl, b8⟩
      rw [evsEq_refl]
      go_wp2_with fail
      go_ret
      exact ⟨rfl, B7.out.trans (b8.mono B7.out.size)⟩
/-- The law. -/
theorem lines_walk (s : ByteArray) (k : Int) (w : World) (mx : Int) (te1 : TypeId) (pe1 : Value) (hs : s.size ≤ 1048576) (hmx : w.cell? ⟨0, 0, none⟩ = some (.int .i64 mx)) (hv1 : w.cell? ⟨4, 0, none⟩ = some (.iface te1 pe1)) :
    Calls Tryz.prog 4 #[.string s, .int .i64 k] w fun e w' => e = .returned (.bool true) ∧ Below w.heap.size w w' := by
  obtain ⟨N, hN, hm⟩ := u64_mod k 3 (by decide) (by decide)
  rcases (by omega : N = 0 ∨ N = 1 ∨ N = 2) with rfl | rfl | rfl
  · exact lines_0 s k w mx te1 pe1 hs hmx hv1 hm
  · exact lines_1 s k w mx te1 pe1 hs hmx hv1 hm
  · exact lines_2 s k w mx te1 pe1 hs hmx hv1 hm
end Go.Proofs.YtegeiojcdjnmjaaGreatDoor
