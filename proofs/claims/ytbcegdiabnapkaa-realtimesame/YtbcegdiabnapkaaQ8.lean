/-
  The walk of 'pairs'.
-/
import Derived.Test.YtbcegdiabnapkaaQ7
namespace Go.Proofs.Ytbcegdiabnapkaa
set_option linter.unusedVariables false
set_option linter.unusedSimpArgs false
open Go.RowKit Go.Lib

theorem Try.infoPr : (Try.prog.info? 30).map (fun i => (i.zero, i.size, i.bytes)) = some (some (.agg #[.int .i64 0, .int .i64 0]), 2, 16) := by kernel_rfl
/-- Where order[k:] begins. -/
def tailA (so : Option Addr) (cs k : Nat) : Option Addr := if cs = k then so else Option.map (fun x => x.add (k * 2)) so
theorem Ls.tail {w : World} {so : Option Addr} {q cs k : Nat} {h : Nat → Int × Int} (H : Ls w so q h) (hk : k ≤ q) (hc : q ≤ cs) : Ls w (tailA so cs k) (q - k) (fun i => h (k + i)) := fun i hi => by
  unfold tailA
  rw [if_neg (by omega)]
  obtain ⟨b, o, rfl, h2, h3, h4⟩ := H (k + i) (by omega)
  refine ⟨b, o + k * 2, by simp [Addr.add], h2, ?_, ?_⟩
  · rw [show o + k * 2 + i * 2 = o + (k + i) * 2 by omega]; exact h3
  · rw [show o + k * 2 + i * 2 + 1 = o + (k + i) * 2 + 1 by omega]; exact h4
/-- What is asked of 'pick'. -/
def Picks (f : Nat → LT) (n : Nat) (w : World) (G : Nat) (cb : Array Value) (rowL : Nat → List Nat) : Prop :=
  ∀ (so : Option Addr) (cs q : Nat) (t : Nat → Nat) (fs : Nat → Int) (W : World), q ≤ cs → q ≤ n → Sts f n q t fs → Ls W so q (fun i => ((t i : Int), fs i)) → Below w.heap.size w W → ∀ i, i < n →
    Calls Try.prog G (#[.slice (tailA so cs (cnt f t q i)) (q - cnt f t q i) (cs - cnt f t q i)] ++ cb) W fun e w' => ∃ r, r ≤ q - cnt f t q i ∧ e = .returned (.slice (tailA so cs (cnt f t q i)) r (cs - cnt f t q i)) ∧ ((List.range r).map (fun j => t (cnt f t q i + j))).Perm (rowL i) ∧ Below W.heap.size W w'
/-- The pairs so far, with some of the next row. -/
def midL (rowL : Nat → List Nat) (t : Nat → Nat) (i k j : Nat) : List (Int × Int) := allL rowL i ++ (List.range j).map (fun x => ((i : Int), (t (k + x) : Int)))
theorem midL_succ (rowL : Nat → List Nat) (t : Nat → Nat) (i k j : Nat) : midL rowL t i k (j + 1) = midL rowL t i k j ++ [((i : Int), (t (k + j) : Int))] := by
  simp [midL, List.range_succ]
theorem midL_len (rowL : Nat → List Nat) (t : Nat → Nat) (i k j : Nat) : (midL rowL t i k j).length = (allL rowL i).length + j := by simp [midL]
def PairsPost (rowL : Nat → List Nat) (n : Nat) (w : World) (e : Ending) (w' : World) : Prop := ∃ v, e = .returned v ∧ w'.ownsRow w.heap.size 30 2 v (allL rowL n).length (rowsP (allL rowL n)).flatten ∧ Below w.heap.size w w'
theorem owns_base {w : World} {B B' e size n : Nat} {v : Value} {xs : List Value} (h : w.ownsRow B e size v n xs) (hb : B' ≤ B) : w.ownsRow B' e size v n xs := by
  refine ⟨h.1, ?_⟩
  rcases h.2 with hn | ⟨g, cap, cur, hv, hg, rest⟩
  · exact .inl hn
  · exact .inr ⟨g, cap, cur, hv, by omega, rest⟩

set_option maxHeartbeats 8000000 in
set_option maxRecDepth 100000 in
theorem pairs_is (ao : Option Addr) (c n G : Nat) (cb : Array Value) (f : Nat → LT) (rowL : Nat → List Nat) (w : World) (hn : n ≤ 40) (hl : Lt w ao n f) (hP : Picks f n w G cb rowL) (hinc : ∀ i, (rowL i).Pairwise (· < ·)) (hM : ∀ i, (rowL i).length ≤ 40)
    (eg : ∀ args w, (callFunc G args).run Try.prog w = .ok (.enter G args) w) :
    Calls Try.prog 23 #[.slice ao n c, .func (.func G) #[] cb] w fun e w' => PairsPost rowL n w e w' := by
  obtain ⟨i0, hi0, hz0, hz1, hz2⟩ := info_parts Try.infoPr
  have L0 := hid hl
  have PK : Aside _ := hP
  have AL := hid (allL_len rowL 40 hM)
  have INC := hid hinc
  clear hl hP hM hinc
  go_enter Try.func23, Try.ntmps23
  go_wp2_with fail
  go_at_call 31
  refine (starts_is ao c n f w hn L0.out).mono ?_
  rintro e w1 ⟨so, q, cs, t, fs, rfl, hqc, hqn, hSts, hLs, hb1⟩
  have ST := hid hSts
  have LS1 := hid hLs
  have B1 := hid hb1
  have L1 := hid (L0.out.later hb1)
  clear hSts hLs hb1 L0
  go_wp2_with fail
  go_loopg [6, 7, 8, 16] n (fun gg v _ _ i wr => ∃ k : Nat, k ≤ n ∧ n - k ≤ gg ∧ i = .int .i64 k ∧ Aside (Below w1.heap.size w1 wr) ∧ Aside (wr.ownsRow w1.heap.size 30 2 v (allL rowL k).length (rowsP (allL rowL k)).flatten))
  case atStart => exact ⟨0, Nat.zero_le _, by omega, rfl, Below.refl _ _, World.ownsRow_nil _ _ _ _⟩
  case round =>
    obtain ⟨i, hi, hg, rfl, BW, OW⟩ := hrel
    by_cases hlt : i < n
    · have hlti : (i : Int) < (n : Int) := by omega
      obtain ⟨b, o, rfl, hbl, ⟨xa, xn, xc, hx⟩, d0, d1, d2, d3, d4⟩ := (L1.out.later BW.out).five i hlt
      obtain ⟨X, hX⟩ : ∃ X, f i = X := ⟨_, rfl⟩
      have HX := hid hX
      rw [hX] at hx d0 d1 d2 d3 d4
      clear hX
      obtain ⟨xp, xs, xf, xt, xv⟩ := X
      simp only [LT.proc, LT.state, LT.since, LT.till, LT.ov] at d0 d1 d2 d3 d4 hx
      subst hx
      obtain ⟨a0, c0, hv⟩ : ∃ a0 c0, u6 = .slice a0 (allL rowL i).length c0 := by
        rcases OW.out.2 with ⟨h1, h2⟩ | ⟨g, cap, cur, h1, _⟩
        · exact ⟨none, 0, by rw [h1, h2]⟩
        · exact ⟨_, _, h1⟩
      subst hv
      have hAL : (allL rowL i).length ≤ 1600 := by
        have := AL.out i
        have : i * 40 ≤ 40 * 40 := Nat.mul_le_mul_right _ (by omega)
        omega
      obtain ⟨Lg, hLg⟩ : ∃ Lg, (allL rowL i).length = Lg := ⟨_, rfl⟩
      rw [hLg] at OW hAL ⊢
      have HLG := hid hLg
      clear hLg
      have BX := hid (BW.out.alloc BW.out.size (.cells #[.int .i64 xp, .int .i64 xs, .int .i64 xf, .int .i64 xt, .slice xa xn xc] 26))
      go_wp2_with fail
      clear d0 d1 d2 d3 d4
      have OX : Hid ((wr.alloc (.cells #[.int .i64 xp, .int .i64 xs, .int .i64 xf, .int .i64 xt, .slice xa xn xc] 26)).ownsRow w1.heap.size 30 2 (.slice a0 Lg c0) Lg (rowsP (allL rowL i)).flatten) := owns_keep OW.out (fun g hg => ((Below.refl wr.heap.size wr).alloc (Nat.le_refl _) _).block g (OW.out.lt g hg).2)
      clear OW BW
      generalize wr.alloc (.cells #[.int .i64 xp, .int .i64 xs, .int .i64 xf, .int .i64 xt, .slice xa xn xc] 26) = wb at *
      generalize wr.heap.size = pxx at *
      refine (firstBehind_is (some ⟨b, o, none⟩) so c cs n q f _ t (xp, xs, xf, xt, .slice xa xn xc) wb (fun j hj => rfl) (fun j hj => (ST.out.ok hj).1) ⟨_, _, _, rfl⟩ (L1.out.later BX.out) (LS1.out.later BX.out) (by omega) (fun a b h1 h2 => ST.out.mono _ a b h1 h2)).mono ?_
      rintro e w5 ⟨rfl, m5, os5, hw5⟩
      have B5 : Hid (Below wb.heap.size wb w5) := by
        show Below _ _ _
        rw [hw5]
        exact below_grown_sl _ _ _ _ (Nat.le_refl _)
      have HK : Hid ((List.range q).countP (fun j => !bef (xp, xs, xf, xt, .slice xa xn xc) (f (t j))) = cnt f t q i) := by
        show _ = _
        unfold cnt
        rw [HX.out]
      rw [HK.out]
      have hkq := cnt_le f t q i
      have BX5 := hid (BX.out.trans (B5.out.mono BX.out.size))
      have OX5 : Hid (w5.ownsRow w1.heap.size 30 2 (.slice a0 Lg c0) Lg (rowsP (allL rowL i)).flatten) := owns_keep OX.out (fun g hg => B5.out.block g (OX.out.lt g hg).2)
      clear hw5 HK BX OX B5
      have PC := PK.out so cs q t fs w5 hqc hqn ST.out (LS1.out.later BX5.out) (B1.out.trans (BX5.out.mono B1.out.size)) i hlt
      obtain ⟨kk, hkk⟩ : ∃ kk, cnt f t q i = kk := ⟨_, rfl⟩
      rw [hkk] at PC hkq ⊢
      have HKK := hid hkk
      clear hkk
      have hkqi : (kk : Int) ≤ (q : Int) := by omega
      have TL : Hid (∀ W, Below w1.heap.size w1 W → Ls W (tailA so cs kk) (q - kk) (fun j => ((t (kk + j) : Int), fs (kk + j)))) := fun W hW => (LS1.out.later hW).tail hkq hqc
      have TN : Hid (∀ j, j < q - kk → t (kk + j) < n) := fun j hj => (ST.out.ok (show kk + j < q by omega)).1
      have hw2 : ((kk : Int)).toNat = kk := by omega
      by_cases hck : cs = kk
      · have hqk : q - kk = 0 := by omega
        have TAE : Hid (tailA so cs kk = so) := by
          show _ = _
          unfold tailA
          rw [if_pos hck]
        rw [TAE.out] at PC
        have hck2 : cs - kk = 0 := by omega
        rw [hqk, hck2] at PC
        subst hck
        go_wp2_with fail
        go_at_fn G
        refine PC.mono ?_
        rintro e w7 ⟨r, hr, rfl, hperm, hb7⟩
        have B7 := hid (BX5.out.trans (hb7.mono BX5.out.size))
        have O7 : Hid (w7.ownsRow w1.heap.size 30 2 (.slice a0 Lg c0) Lg (rowsP (midL rowL t i cs 0)).flatten) := by
          have : midL rowL t i cs 0 = allL rowL i := by simp [midL]
          rw [this]
          exact owns_keep OX5.out (fun g hg => hb7.block g (OX5.out.lt g hg).2)
        have PM := hid hperm
        have hr40 : r ≤ 40 := by omega
        clear hperm hb7 OX5 BX5 PC
        go_wp2_with fail
        go_loopg [6, 11, 32] r (fun gg v _ jv wr => ∃ j : Nat, j ≤ r ∧ r - j ≤ gg ∧ jv = .int .i64 j ∧ Aside (Below w1.heap.size w1 wr) ∧ Aside (wr.ownsRow w1.heap.size 30 2 v (Lg + j) (rowsP (midL rowL t i cs j)).flatten))
        case atStart => exact ⟨0, Nat.zero_le _, by omega, rfl, B7.out, O7.out⟩
        case round =>
          clear O7 B7
          obtain ⟨j, hj, hgj, rfl, BW, OW⟩ := hrel
          by_cases hjr : j < r
          · have hjri : (j : Int) < (r : Int) := by omega
            exfalso
            omega
          · have hjri : ¬ (j : Int) < (r : Int) := by omega
            have hjr2 : j = r := by omega
            subst hjr2
            have ROWEQ : Hid (∀ l3 : List (Int × Int), l3.Perm ((List.range j).map (fun x => ((i : Int), (t (cs + x) : Int)))) → (∀ x y, x < y → y < l3.length → (l3.getD x default).2 ≤ (l3.getD y default).2) → allL rowL i ++ l3 = allL rowL (i + 1)) := fun l3 h1 h2 => by
              have h3 : l3.Perm ((rowL i).map (fun x : Nat => ((i : Int), (x : Int)))) := by
                refine h1.trans ?_
                have := PM.out.map (fun x : Nat => ((i : Int), (x : Int)))
                rw [List.map_map] at this
                exact this
              rw [row_unique i (rowL i) l3 h3 h2 (INC.out i), allL_succ]
            by_cases hr0 : j = 0
            · subst hr0
              have E0 : Hid (midL rowL t i cs 0 = allL rowL (i + 1)) := by
                show midL rowL t i cs 0 = _
                have := ROWEQ.out [] (by simp) (fun x y h1 h2 => by simp at h2)
                rw [← this]
                simp [midL]
              have O9 : Hid (wr.ownsRow w1.heap.size 30 2 u6 (allL rowL (i + 1)).length (rowsP (allL rowL (i + 1))).flatten) := by
                show World.ownsRow _ _ _ _ _ _ _
                rw [← E0.out, midL_len, HLG.out]
                exact OW.out
              obtain ⟨a9, c9, hv9, hc9⟩ : ∃ a9 c9, u6 = .slice a9 Lg c9 ∧ Lg ≤ c9 := by
                rcases OW.out.2 with ⟨h1, h2⟩ | ⟨g, cap, cur, h1, _, _, h5, _⟩
                · exact ⟨none, 0, by rw [h1]; congr 1; omega, by omega⟩
                · exact ⟨_, _, h1, h5⟩
              subst hv9
              have hc9i : (Lg : Int) ≤ (c9 : Int) := by omega
              have SN : Hid (∀ p cp W, Calls Try.prog 32 #[.slice p 0 cp, .func (.func 33) #[] #[]] W fun e w' => e = .returned (.tuple #[]) ∧ W = w') := fun p cp W => (AnyF.slices_SortFunc_none Try.sort32 p cp _ W).mono fun _ _ ⟨h1, h2⟩ => ⟨h1, h2.symm⟩
              clear OW E0 ROWEQ
              by_cases hcl : c9 = Lg
              · subst hcl
                go_wp2_with fail
                go_at_call 32
                refine (SN.out _ _ _).mono ?_
                rintro e w9 ⟨rfl, rfl⟩
                go_wp2_with fail
                go_roundg (n - (i + 1))
                case measure => omega
                case rel => exact ⟨i + 1, by omega, by omega, by go_num, BW.out, O9.out⟩
              · skip
                go_wp2_with fail
                go_at_call 32
                refine (SN.out _ _ _).mono ?_
                rintro e w9 ⟨rfl, rfl⟩
                go_wp2_with fail
                go_roundg (n - (i + 1))
                case measure => omega
                case rel => exact ⟨i + 1, by omega, by omega, by go_num, BW.out, O9.out⟩
            · obtain ⟨g9, c9, hv9, hc9⟩ : ∃ g9 c9, u6 = .slice (some ⟨g9, 0, none⟩) (Lg + j) c9 ∧ Lg + j ≤ c9 := by
                rcases OW.out.2 with ⟨h1, h2⟩ | ⟨g, cap, cur, h1, _, _, h5, _⟩
                · omega
                · exact ⟨_, _, h1, h5⟩
              subst hv9
              have hc9i : (Lg : Int) ≤ (Lg : Int) + (j : Int) := by omega
              have hcl : ¬ c9 = Lg := by omega
              have hml : ((List.range j).map (fun x => ((i : Int), (t (cs + x) : Int)))).length = j := by simp
              have SC := sortRow_call w1.heap.size wr g9 c9 (allL rowL i) ((List.range j).map (fun x => ((i : Int), (t (cs + x) : Int)))) (by rw [HLG.out, hml]; exact OW.out) (by rw [hml]; omega)
              rw [HLG.out, hml] at SC
              have SC2 : Calls Try.prog 32 #[.slice (some ⟨g9, Lg * 2, none⟩) j (c9 - Lg), .func (.func 33) #[] #[]] wr fun e w' => e = .returned (.tuple #[]) ∧ ∃ l3 : List (Int × Int), allL rowL i ++ l3 = allL rowL (i + 1) ∧ w'.ownsRow w1.heap.size 30 2 (.slice (some ⟨g9, 0, none⟩) (Lg + j) c9) (Lg + j) (rowsP (allL rowL (i + 1))).flatten ∧ Below w1.heap.size w1 w' ∧ l3.length = j := SC.mono fun e w' ⟨he, l3, q1, q2, q3, q4⟩ => by
                have E := ROWEQ.out l3 q1 q2
                refine ⟨he, l3, E, ?_, ?_, by rw [q1.length_eq, hml]⟩
                · rw [HLG.out, hml, E] at q3
                  exact q3
                · have hg9 := OW.out.lt g9 rfl
                  exact BW.out.trans ((⟨q4.os, q4.tape, q4.output, q4.size, fun x hx => q4.block x (Nat.lt_of_lt_of_le hx BW.out.size) (fun e => by cases e; omega)⟩ : Below w1.heap.size wr w'))
              clear SC hml ROWEQ OW
              have hsub : Lg + j - Lg = j := by omega
              go_wp2_with fail
              go_at_call 32
              refine SC2.mono ?_
              rintro e w9 ⟨rfl, l3, hE, hO, hB9, hl3⟩
              have O9 : Hid (w9.ownsRow w1.heap.size 30 2 (.slice (some ⟨g9, 0, none⟩) (Lg + j) c9) (allL rowL (i + 1)).length (rowsP (allL rowL (i + 1))).flatten) := by
                have hll : (allL rowL (i + 1)).length = Lg + j := by rw [← hE, List.length_append, HLG.out, hl3]
                show World.ownsRow _ _ _ _ _ _ _
                rw [hll]
                exact hO
              have B9 := hid hB9
              clear hE hO hB9 hl3 SC2
              go_wp2_with fail
              go_roundg (n - (i + 1))
              case measure => omega
              case rel => exact ⟨i + 1, by omega, by omega, by go_num, B9.out, O9.out⟩
      · have PC2 := PC
        have TAE : Hid (tailA so cs kk = Option.map (fun x => x.add (kk * 2)) so) := by
          show _ = _
          unfold tailA
          rw [if_neg hck]
        rw [TAE.out] at PC TL
        clear PC2
        obtain ⟨ta, hta0⟩ : ∃ ta, Option.map (fun x : Addr => x.add (kk * 2)) so = ta := ⟨_, rfl⟩
        rw [hta0] at PC TL
        go_wp2_with fail
        go_at_fn G
        refine PC.mono ?_
        rintro e w7 ⟨r, hr, rfl, hperm, hb7⟩
        have B7 := hid (BX5.out.trans (hb7.mono BX5.out.size))
        have O7 : Hid (w7.ownsRow w1.heap.size 30 2 (.slice a0 Lg c0) Lg (rowsP (midL rowL t i kk 0)).flatten) := by
          have : midL rowL t i kk 0 = allL rowL i := by simp [midL]
          rw [this]
          exact owns_keep OX5.out (fun g hg => hb7.block g (OX5.out.lt g hg).2)
        have PM := hid hperm
        have hr40 : r ≤ 40 := by omega
        clear hperm hb7 OX5 BX5 PC
        go_wp2_with fail
        go_loopg [6, 11, 32] r (fun gg v _ jv wr => ∃ j : Nat, j ≤ r ∧ r - j ≤ gg ∧ jv = .int .i64 j ∧ Aside (Below w1.heap.size w1 wr) ∧ Aside (wr.ownsRow w1.heap.size 30 2 v (Lg + j) (rowsP (midL rowL t i kk j)).flatten))
        case atStart => exact ⟨0, Nat.zero_le _, by omega, rfl, B7.out, O7.out⟩
        case round =>
          clear O7 B7
          obtain ⟨j, hj, hgj, rfl, BW, OW⟩ := hrel
          by_cases hjr : j < r
          · have hjri : (j : Int) < (r : Int) := by omega
            obtain ⟨bs, bo, hta, hbs, s1, s2⟩ := TL.out _ BW.out j (by omega)
            have htj := TN.out j (by omega)
            obtain ⟨T1, hT1⟩ : ∃ T1, t (kk + j) = T1 := ⟨_, rfl⟩
            have HT1 := hid hT1
            simp only [hT1] at s1 s2 htj
            clear hT1
            have MS := hid (midL_succ rowL t i kk j)
            rw [HT1.out] at MS
            subst hta
            have BX := hid (BW.out.alloc BW.out.size (.cells #[.int .i64 T1, .int .i64 (fs (kk + j))] 50))
            generalize midL rowL t i kk j = lj at *
            generalize fs (kk + j) = fj at *
            go_wp2_with (at_builtin; refine wpList_append_lies _ rfl _ _ 29 rfl w1.heap.size 30 i0 _ 2 16 Try.underlying29 hi0 hz0 hz1 hz2 rfl (by decide) u6 (Lg + j) (rowsP lj).flatten rfl ?hown ⟨wr.heap.size + 1, 0, none⟩ 1 1 [.int .i64 i, .int .i64 T1] rfl rfl ?hnews ?hone (by decide) ?h63 ?hby ?hbase (wr.heap.size + 2) ?hH ?_)
            case hown => exact owns_keep OW.out (fun g hg => (((Below.refl wr.heap.size wr).alloc (Nat.le_refl _) _).alloc (by simp) _).block g (OW.out.lt g hg).2)
            case hnews => exact World.news_of_block (by simpa using heap_alloc_new (wr.alloc (.cells #[.int .i64 T1, .int .i64 fj] 50)) (.cells #[.int .i64 i, .int .i64 T1] 30))
            case hone => intro u hu; simp at hu; rcases hu with rfl | rfl <;> rfl
            case h63 => unfold maxLen; omega
            case hby => omega
            case hbase => have := BW.out.size; simp; omega
            case hH => simp
            intro g cap w8 hown8 hgrow hat hglt
            have B8 : Hid (Below w1.heap.size w1 w8) := (BX.out.alloc (by have := BW.out.size; simp; omega) _).grown hgrow (by have := BW.out.size; simp; omega) (fun x hx => (OW.out.lt x hx).1)
            have O8 : Hid (w8.ownsRow w1.heap.size 30 2 (.slice (some ⟨g, 0, none⟩) (Lg + j + 1) cap) (Lg + (j + 1)) (rowsP (midL rowL t i kk (j + 1))).flatten) := by
              show World.ownsRow _ _ _ _ _ _ _
              rw [MS.out, rowsP_append]
              exact hown8
            clear hown8 hgrow hat hglt s1 s2 OW BX BW
            go_wp2_with fail
            go_roundg (r - (j + 1))
            case measure => omega
            case rel => exact ⟨j + 1, by omega, by omega, by go_num, B8.out, O8.out⟩
          · have hjri : ¬ (j : Int) < (r : Int) := by omega
            have hjr2 : j = r := by omega
            subst hjr2
            have ROWEQ : Hid (∀ l3 : List (Int × Int), l3.Perm ((List.range j).map (fun x => ((i : Int), (t (kk + x) : Int)))) → (∀ x y, x < y → y < l3.length → (l3.getD x default).2 ≤ (l3.getD y default).2) → allL rowL i ++ l3 = allL rowL (i + 1)) := fun l3 h1 h2 => by
              have h3 : l3.Perm ((rowL i).map (fun x : Nat => ((i : Int), (x : Int)))) := by
                refine h1.trans ?_
                have := PM.out.map (fun x : Nat => ((i : Int), (x : Int)))
                rw [List.map_map] at this
                exact this
              rw [row_unique i (rowL i) l3 h3 h2 (INC.out i), allL_succ]
            by_cases hr0 : j = 0
            · subst hr0
              have E0 : Hid (midL rowL t i kk 0 = allL rowL (i + 1)) := by
                show midL rowL t i kk 0 = _
                have := ROWEQ.out [] (by simp) (fun x y h1 h2 => by simp at h2)
                rw [← this]
                simp [midL]
              have O9 : Hid (wr.ownsRow w1.heap.size 30 2 u6 (allL rowL (i + 1)).length (rowsP (allL rowL (i + 1))).flatten) := by
                show World.ownsRow _ _ _ _ _ _ _
                rw [← E0.out, midL_len, HLG.out]
                exact OW.out
              obtain ⟨a9, c9, hv9, hc9⟩ : ∃ a9 c9, u6 = .slice a9 Lg c9 ∧ Lg ≤ c9 := by
                rcases OW.out.2 with ⟨h1, h2⟩ | ⟨g, cap, cur, h1, _, _, h5, _⟩
                · exact ⟨none, 0, by rw [h1]; congr 1; omega, by omega⟩
                · exact ⟨_, _, h1, h5⟩
              subst hv9
              have hc9i : (Lg : Int) ≤ (c9 : Int) := by omega
              have SN : Hid (∀ p cp W, Calls Try.prog 32 #[.slice p 0 cp, .func (.func 33) #[] #[]] W fun e w' => e = .returned (.tuple #[]) ∧ W = w') := fun p cp W => (AnyF.slices_SortFunc_none Try.sort32 p cp _ W).mono fun _ _ ⟨h1, h2⟩ => ⟨h1, h2.symm⟩
              clear OW E0 ROWEQ
              by_cases hcl : c9 = Lg
              · subst hcl
                go_wp2_with fail
                go_at_call 32
                refine (SN.out _ _ _).mono ?_
                rintro e w9 ⟨rfl, rfl⟩
                go_wp2_with fail
                go_roundg (n - (i + 1))
                case measure => omega
                case rel => exact ⟨i + 1, by omega, by omega, by go_num, BW.out, O9.out⟩
              · skip
                go_wp2_with fail
                go_at_call 32
                refine (SN.out _ _ _).mono ?_
                rintro e w9 ⟨rfl, rfl⟩
                go_wp2_with fail
                go_roundg (n - (i + 1))
                case measure => omega
                case rel => exact ⟨i + 1, by omega, by omega, by go_num, BW.out, O9.out⟩
            · obtain ⟨g9, c9, hv9, hc9⟩ : ∃ g9 c9, u6 = .slice (some ⟨g9, 0, none⟩) (Lg + j) c9 ∧ Lg + j ≤ c9 := by
                rcases OW.out.2 with ⟨h1, h2⟩ | ⟨g, cap, cur, h1, _, _, h5, _⟩
                · omega
                · exact ⟨_, _, h1, h5⟩
              subst hv9
              have hc9i : (Lg : Int) ≤ (Lg : Int) + (j : Int) := by omega
              have hcl : ¬ c9 = Lg := by omega
              have hml : ((List.range j).map (fun x => ((i : Int), (t (kk + x) : Int)))).length = j := by simp
              have SC := sortRow_call w1.heap.size wr g9 c9 (allL rowL i) ((List.range j).map (fun x => ((i : Int), (t (kk + x) : Int)))) (by rw [HLG.out, hml]; exact OW.out) (by rw [hml]; omega)
              rw [HLG.out, hml] at SC
              have SC2 : Calls Try.prog 32 #[.slice (some ⟨g9, Lg * 2, none⟩) j (c9 - Lg), .func (.func 33) #[] #[]] wr fun e w' => e = .returned (.tuple #[]) ∧ ∃ l3 : List (Int × Int), allL rowL i ++ l3 = allL rowL (i + 1) ∧ w'.ownsRow w1.heap.size 30 2 (.slice (some ⟨g9, 0, none⟩) (Lg + j) c9) (Lg + j) (rowsP (allL rowL (i + 1))).flatten ∧ Below w1.heap.size w1 w' ∧ l3.length = j := SC.mono fun e w' ⟨he, l3, q1, q2, q3, q4⟩ => by
                have E := ROWEQ.out l3 q1 q2
                refine ⟨he, l3, E, ?_, ?_, by rw [q1.length_eq, hml]⟩
                · rw [HLG.out, hml, E] at q3
                  exact q3
                · have hg9 := OW.out.lt g9 rfl
                  exact BW.out.trans ((⟨q4.os, q4.tape, q4.output, q4.size, fun x hx => q4.block x (Nat.lt_of_lt_of_le hx BW.out.size) (fun e => by cases e; omega)⟩ : Below w1.heap.size wr w'))
              clear SC hml ROWEQ OW
              have hsub : Lg + j - Lg = j := by omega
              go_wp2_with fail
              go_at_call 32
              refine SC2.mono ?_
              rintro e w9 ⟨rfl, l3, hE, hO, hB9, hl3⟩
              have O9 : Hid (w9.ownsRow w1.heap.size 30 2 (.slice (some ⟨g9, 0, none⟩) (Lg + j) c9) (allL rowL (i + 1)).length (rowsP (allL rowL (i + 1))).flatten) := by
                have hll : (allL rowL (i + 1)).length = Lg + j := by rw [← hE, List.length_append, HLG.out, hl3]
                show World.ownsRow _ _ _ _ _ _ _
                rw [hll]
                exact hO
              have B9 := hid hB9
              clear hE hO hB9 hl3 SC2
              go_wp2_with fail
              go_roundg (n - (i + 1))
              case measure => omega
              case rel => exact ⟨i + 1, by omega, by omega, by go_num, B9.out, O9.out⟩
    · have hlti : ¬ (i : Int) < (n : Int) := by omega
      have hin : i = n := by omega
      subst hin
      have PO : Hid (PairsPost rowL i w (.returned u6) wr) := ⟨_, rfl, owns_base OW.out B1.out.size, B1.out.trans (BW.out.mono B1.out.size)⟩
      go_wp2_with fail
      go_ret
      exact PO.out
end Go.Proofs.Ytbcegdiabnapkaa
