/-
  The law CyclesStronger.
-/
import Derived.Test.YtdihbeffomibeaaGreatDoorY24
namespace Go.Proofs.YtdihbeffomibeaaGreatDoor
set_option linter.unusedVariables false
set_option linter.unusedSimpArgs false
open Go.RowKit Go.Lib Go.Maps

set_option maxHeartbeats 6000000 in
set_option maxRecDepth 100000 in
theorem cystronger_walk (N : Int) (ao : Option Addr) (cp len : Nat) (f : Nat → MW) (w : World) (hl : Lw w ao len f) (hlc : len ≤ cp) (hT : Tab w) (hC : Cls w) :
    Calls Tryz.prog 5 #[.int .i64 N, .slice ao len cp] w fun e w' => e = .returned (.bool true) ∧ Below w.heap.size w w' := by
  obtain ⟨m, hm⟩ : ∃ m, m = min len 60 := ⟨_, rfl⟩
  have hmi : min (len : Int) 60 = (m : Int) := by omega
  have hmc : (m : Int) ≤ (cp : Int) := by omega
  have hm60 : m ≤ 60 := by omega
  have HL := hid (hl.take (show m ≤ len by omega))
  have TB := hid hT
  have CB := hid hC
  have B0 := hid (Below.refl w.heap.size w)
  clear hl hlc hm hT hC
  go_enter Tryz.func5, Tryz.ntmps5
  go_wp2_with fail
  clear hmi
  go_loopg [5, 6, 7, 8, 9, 10, 11] 4 (fun g kv _ _ _ _ _ _ wr => ∃ c : Int, 8 ≤ c ∧ c ≤ 12 ∧ (12 - c).toNat ≤ g ∧ kv = .int .i64 c ∧ Aside (Below w.heap.size w wr))
  case atStart => exact ⟨8, by omega, by omega, by decide, rfl, B0.out⟩
  case round =>
    clear B0
    obtain ⟨c, hc8, hc12, hg, rfl, BX⟩ := hrel
    by_cases hlt : c ≤ 11
    · have hcl : Hid (isCl c) := by unfold isCl; show _ ∨ _; omega
      have FI := hid (cfind_is N ao cp m f c false wr (HL.out.later BX.out) hm60 (TB.out.later BX.out) (CB.out.later BX.out))
      go_wp2_with fail
      go_at_call 8
      refine FI.out.mono ?_
      rintro e w2 ⟨⟨v, k, g1, ok, rfl, ht, -⟩, b2⟩
      have B2 := hid (BX.out.trans (b2.mono BX.out.size))
      have FJ := hid (cfind_is N ao cp m f c true w2 (HL.out.later B2.out) hm60 (TB.out.later B2.out) (CB.out.later B2.out))
      have H1 := hid ht
      clear b2 FI ht BX
      go_wp2_with fail
      go_at_call 8
      refine FJ.out.mono ?_
      rintro e w3 ⟨⟨v2, k2, g2, ok2, rfl, ht, -⟩, b3⟩
      have B3 := hid (B2.out.trans (b3.mono B2.out.size))
      have RF := hid (rcfind_is N ao cp m f c false w3 (HL.out.later B3.out) hm60)
      have H2 := hid ht
      clear b3 FJ ht B2
      go_wp2_with fail
      go_at_call 9
      refine RF.out.mono ?_
      rintro e w4 ⟨⟨v', k', g', ok', rfl, ht, -⟩, b4⟩
      obtain ⟨rfl, rfl, -⟩ := H1.out.uniq ht
      have B4 := hid (B3.out.trans (b4.mono B3.out.size))
      clear b4 RF ht B3
      cases ok with
      | false =>
        clear H1 H2
        go_wp2_with fail
        go_roundg ((12 - (c + 1)).toNat)
        case measure => omega
        case rel => exact ⟨c + 1, by omega, by omega, by omega, by go_num, B4.out⟩
      | true =>
        obtain rfl : ok2 = true := TellA.more hcl.out hcl.out rfl (real_more c hcl.out) H1.out H2.out
        clear H1 H2
        go_wp2_with fail
        go_roundg ((12 - (c + 1)).toNat)
        case measure => omega
        case rel => exact ⟨c + 1, by omega, by omega, by omega, by go_num, B4.out⟩
    · have hlti : ¬ c ≤ 11 := hlt
      have FI := hid (cfind_is N ao cp m f 10 false wr (HL.out.later BX.out) hm60 (TB.out.later BX.out) (CB.out.later BX.out))
      go_wp2_with fail
      go_at_call 8
      refine FI.out.mono ?_
      rintro e w2 ⟨⟨v, k, g1, ok, rfl, ht, ho⟩, b2⟩
      have B2 := hid (BX.out.trans (b2.mono BX.out.size))
      have FJ := hid (cfind_is N ao cp m f 11 false w2 (HL.out.later B2.out) hm60 (TB.out.later B2.out) (CB.out.later B2.out))
      have H1 := hid ht
      have O2 := hid ho
      clear b2 FI ht ho BX
      go_wp2_with fail
      go_at_call 8
      refine FJ.out.mono ?_
      rintro e w3 ⟨⟨v2, k2, g2, ok2, rfl, ht, -⟩, b3⟩
      have B3 := hid (B2.out.trans (b3.mono B2.out.size))
      have O3 := hid (own_gro O2.out (Gro.of_below (P := fun _ => False) b3) (fun _ _ h => h))
      have RG := hid (rdgraph_any N ao cp m f w3 (HL.out.later B3.out) hm60)
      have H2 := hid ht
      clear b3 FJ ht B2 O2
      go_wp2_with fail
      go_at_call 14
      refine RG.out.mono ?_
      rintro e w4 ⟨hp, b4⟩
      have B4 := hid (B3.out.trans (b4.mono B3.out.size))
      have O4 := hid (own_gro O3.out (Gro.of_below (P := fun _ => False) b4) (fun _ _ h => h))
      clear b4 RG O3 B3
      rcases hp with ⟨y, hy, rfl⟩ | ⟨gb, rfl⟩
      · have hy1 : (y == 0) = false := by simpa using hy
        have hy2 : ¬ y = 0 := hy
        cases ok with
          | false =>
            clear O4 H1 H2
            go_wp2_with fail
            go_ret
            exact ⟨rfl, B4.out⟩
          | true =>
            obtain rfl : ok2 = true := TellA.more (.inr (.inr (.inl rfl))) (.inr (.inr (.inr rfl))) rfl single_more H1.out H2.out
            have GT := hid (good_tell (.inr (.inr (.inl rfl))) H1.out)
            have FT := hid (first_tell (.inr (.inr (.inl rfl))) H1.out)
            have hk : k ≤ 301 := H1.out.short
            have IM := hid (some_of_single GT.out.1 FT.out.1)
            obtain ⟨va, vc, rfl, hvc, hL4⟩ := owns_lw (m := 0) O4.out
            have hvcm : Hid ((vc : Int) ≤ 9223372036854775807) := own_cap O4.out
            have L4 := hid hL4
            have HVC := hid hvc
            have IS := hid (cis_is va k vc g1 11 false w4 hL4 (by omega) hvc hvcm.out FT.out.2 (CB.out.later B4.out))
            clear O4 H1 H2 hL4
            go_wp2_with fail
            go_at_call 15
            refine IS.out.mono ?_
            rintro e w5 ⟨⟨t, rfl, ht⟩, b5⟩
            obtain rfl : t = true := ht.2 IM.out.1
            have B5 := hid (B4.out.trans (b5.mono B4.out.size))
            have IT := hid (cis_is va k vc g1 8 false w5 (L4.out.later b5) (by omega) HVC.out hvcm.out FT.out.2 (CB.out.later B5.out))
            clear b5 ht IS
            go_wp2_with fail
            go_at_call 15
            refine IT.out.mono ?_
            rintro e w6 ⟨⟨t, rfl, ht⟩, b6⟩
            obtain rfl : t = false := by
              cases t with
              | false => rfl
              | true => exact absurd (ht.1 rfl) IM.out.2
            have B6 := hid (B5.out.trans (b6.mono B5.out.size))
            clear b6 ht IT
            go_wp2_with fail
            go_ret
            exact ⟨rfl, B6.out⟩
      · cases ok with
          | false =>
            clear O4 H1 H2
            go_wp2_with fail
            go_ret
            exact ⟨rfl, B4.out⟩
          | true =>
            obtain rfl : ok2 = true := TellA.more (.inr (.inr (.inl rfl))) (.inr (.inr (.inr rfl))) rfl single_more H1.out H2.out
            have GT := hid (good_tell (.inr (.inr (.inl rfl))) H1.out)
            have FT := hid (first_tell (.inr (.inr (.inl rfl))) H1.out)
            have hk : k ≤ 301 := H1.out.short
            have IM := hid (some_of_single GT.out.1 FT.out.1)
            obtain ⟨va, vc, rfl, hvc, hL4⟩ := owns_lw (m := 0) O4.out
            have hvcm : Hid ((vc : Int) ≤ 9223372036854775807) := own_cap O4.out
            have L4 := hid hL4
            have HVC := hid hvc
            have IS := hid (cis_is va k vc g1 11 false w4 hL4 (by omega) hvc hvcm.out FT.out.2 (CB.out.later B4.out))
            clear O4 H1 H2 hL4
            go_wp2_with fail
            go_at_call 15
            refine IS.out.mono ?_
            rintro e w5 ⟨⟨t, rfl, ht⟩, b5⟩
            obtain rfl : t = true := ht.2 IM.out.1
            have B5 := hid (B4.out.trans (b5.mono B4.out.size))
            have IT := hid (cis_is va k vc g1 8 false w5 (L4.out.later b5) (by omega) HVC.out hvcm.out FT.out.2 (CB.out.later B5.out))
            clear b5 ht IS
            go_wp2_with fail
            go_at_call 15
            refine IT.out.mono ?_
            rintro e w6 ⟨⟨t, rfl, ht⟩, b6⟩
            obtain rfl : t = false := by
              cases t with
              | false => rfl
              | true => exact absurd (ht.1 rfl) IM.out.2
            have B6 := hid (B5.out.trans (b6.mono B5.out.size))
            clear b6 ht IT
            go_wp2_with fail
            go_ret
            exact ⟨rfl, B6.out⟩
end Go.Proofs.YtdihbeffomibeaaGreatDoor
