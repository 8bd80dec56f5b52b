/-
  round: the first edge of the wanted label whose end leads back, and the shortest way back.
-/
import Derived.Test.YtdihbeffomibeaaGreatDoorY14
import Derived.Test.YtdihbeffomibeaaGreatDoorY17
import Derived.Test.YtdihbeffomibeaaGreatDoorY10
import Derived.Test.YtdihbeffomibeaaGreatDoorY9
namespace Go.Proofs.YtdihbeffomibeaaGreatDoor
set_option linter.unusedVariables false
set_option linter.unusedSimpArgs false
open Go.RowKit

/-- What round hands back. -/
def RoundPost (L : Nat → Nat → Nat) (n want o : Nat) (w : World) (e : Ending) (w' : World) : Prop :=
  ((∃ F T q v, e = .returned v ∧ FstC (edge L (want : Int)) (edge L (o : Int)) n F T ∧ Best (edge L (o : Int)) n T F q ∧ q.length ≤ n ∧ Part (fun g => w.heap.size ≤ g) w' v ((F :: T :: q).map fun z : Nat => (z : Int))) ∨ (e = .returned (.slice none 0 0) ∧ NoC (edge L (want : Int)) (edge L (o : Int)) n)) ∧ Below w.heap.size w w'
theorem turn_back {L : Nat → Nat → Nat} {n : Nat} {labels : Int} {s x : Nat} (hs : s < n) : (∃ q, q ≠ [] ∧ Wl (edge (turnL L n) labels) n s q x) ↔ (x < n ∧ ∃ q, q ≠ [] ∧ Wl (edge L labels) n x q s) := by
  have ne : ∀ {r r' : List Nat}, r'.length = r.length → r ≠ [] → r' ≠ [] := fun {r r'} h1 h2 h3 => h2 (List.length_eq_zero_iff.1 (by rw [← h1, h3]; rfl))
  constructor
  · rintro ⟨q, hq, hw⟩
    have hx := hw.last hq
    obtain ⟨r', k1, k2⟩ := Wl.back (E' := edge L labels) (fun u v hu hv => (edge_turn L n labels v u hv hu).symm) q s hs hw
    exact ⟨hx, r', ne k1 hq, k2⟩
  · rintro ⟨hx, q, hq, hw⟩
    obtain ⟨r', k1, k2⟩ := Wl.back (E' := edge (turnL L n) labels) (fun u v hu hv => edge_turn L n labels u v hu hv) q x hx hw
    exact ⟨r', ne k1 hq, k2⟩
theorem Alike.back {E : Nat → Nat → Bool} {n T F : Nat} {l : List Nat} (h : Alike E n (T : Int) (F : Int) l) (hT : T < n) (hF : F < n) (hb : ∃ r, r ≠ [] ∧ Wl E n T r F) : ∃ q, l = T :: q ∧ Best E n T F q ∧ q.length ≤ n := by
  obtain ⟨r, hr, hw⟩ := hb
  rcases h with ⟨S, T', q, e1, _, e2, _, h3, h4, rfl⟩ | ⟨_, h1 | h1⟩
  · obtain rfl : T = S := by omega
    obtain rfl : F = T' := by omega
    exact ⟨q, rfl, h3, h4⟩
  · obtain ⟨S, T', D, _, _, _, _, e, _⟩ := h1
    omega
  · exact absurd hw (h1.2 T F rfl hT rfl r hr)

set_option maxHeartbeats 16000000 in
set_option maxRecDepth 100000 in
theorem round_is (b n r : Nat) (bk ck : Nat → Nat) (L : Nat → Nat → Nat) (want o : Nat) (cl : Int) (w : World) (h : Graph w b n r bk ck L) (hT : Tab w) (hw : want < 16) (ho : o < 16) (hd : ∀ f, L f f = 0) :
    Calls Tryz.prog 20 #[.agg #[.int .i64 cl, .int .i64 want, .int .i64 o], .pointer (some ⟨b, 0, none⟩)] w fun e w' => RoundPost L n want o w e w' := by
  obtain ⟨x, hx⟩ : ∃ x, want ||| o = x := ⟨_, rfl⟩
  have hx16 : x < 16 := by rw [← hx]; exact Nat.or_lt_two_pow (n := 4) hw ho
  have hor : bits BinOp.or IntKind.i64 (want : Int) (o : Int) = (x : Int) := by rw [or_16 want hw o ho, hx]
  have hn := h.bound
  have hni : (n : Int) ≤ 300 := by omega
  have GR := hid h
  have TB := hid hT
  have HS := hid h.small
  have HD := hid hd
  have CY := hid (fun W (g : Graph W b n r bk ck L) (t : Tab W) => cyclic_is b n r bk ck L (x : Int) W g t)
  have CG := hid (fun (cs : List (List Nat)) (hc : IsComps (edge L (x : Int)) n cs) (hg : great cs = false) => noC_of_great hw ho hx16 hx.symm h.small hd hc hg)
  obtain ⟨H, hH⟩ : ∃ H, w.heap.size = H := ⟨_, rfl⟩
  have c0 : Hid ((w.alloc (.cells #[.int .i64 cl, .int .i64 want, .int .i64 o] 43)).cell? ⟨H, 1, none⟩ = some (.int .i64 want) ∧ (w.alloc (.cells #[.int .i64 cl, .int .i64 want, .int .i64 o] 43)).cell? ⟨H, 2, none⟩ = some (.int .i64 o) ∧ H < (w.alloc (.cells #[.int .i64 cl, .int .i64 want, .int .i64 o] 43)).heap.size) := by
    rw [← hH]
    exact ⟨new_cells w _ _ 1, new_cells w _ _ 2, by simp⟩
  have B0 : Hid (Below H w (w.alloc (.cells #[.int .i64 cl, .int .i64 want, .int .i64 o] 43))) := by rw [← hH]; exact below_box w _
  have hwi : (want : Int) < 16 := by omega
  have hoi : (o : Int) < 16 := by omega
  have HX := hid hx
  clear h hT hd hx
  obtain ⟨W0, hW0⟩ : ∃ W0, w.alloc (.cells #[.int .i64 cl, .int .i64 want, .int .i64 o] 43) = W0 := ⟨_, rfl⟩
  rw [hW0] at c0 B0
  go_enter Tryz.func20, Tryz.ntmps20
  go_upto_region 1 with fail
  try rw [hW0]
  try rw [hH]
  have G0 : Hid (Graph W0 b n r bk ck L) := by have := B0.out; rw [← hH] at this; exact GR.out.later this
  have T0 : Hid (Tab W0) := by have := B0.out; rw [← hH] at this; exact TB.out.later this
  have HH := hid hH
  clear hW0 hH GR TB
  obtain ⟨cw, co, cz⟩ := c0.out
  have CYW := hid (CY.out W0 G0.out T0.out)
  clear CY
  go_wp2_with fail
  go_at_call 38
  refine CYW.out.mono ?_
  rintro e w1 ⟨⟨cs, rfl, hc⟩, b1⟩
  have HC := hid hc
  have B1 : Hid (Below H w w1) := B0.out.trans (b1.mono (Nat.le_of_lt cz))
  have G1 := hid (G0.out.later b1)
  have T1 := hid (T0.out.later b1)
  have d1 : w1.cell? ⟨H, 1, none⟩ = some (.int .i64 want) := (b1.cell (p := ⟨H, 1, none⟩) cz).trans cw
  have d2 : w1.cell? ⟨H, 2, none⟩ = some (.int .i64 o) := (b1.cell (p := ⟨H, 2, none⟩) cz).trans co
  have dz : H < w1.heap.size := Nat.lt_of_lt_of_le cz b1.size
  clear hc b1 CYW G0 T0 B0 cw co cz c0
  cases hgr : great cs with
  | false =>
    have NC := hid (CG.out cs HC.out hgr)
    clear hgr CG HC
    go_wp2_with fail
    go_ret
    exact ⟨.inr ⟨rfl, NC.out⟩, by rw [HH.out]; exact B1.out⟩
  | true =>
    clear hgr CG HC
    have TU := hid (turn_is b n r bk ck L w1 G1.out T1.out)
    go_wp2_with fail
    go_at_call 39
    refine TU.out.mono ?_
    rintro e w2 ⟨⟨tb, tr, tbk, tck, rfl, g2, _⟩, b2⟩
    have U2 := hid (g2.turned HS.out HD.out)
    have B2 : Hid (Below H w w2) := B1.out.trans (b2.mono (Nat.le_of_lt dz))
    have G2 := hid (G1.out.later b2)
    have T2 := hid (T1.out.later b2)
    have e1 : w2.cell? ⟨H, 1, none⟩ = some (.int .i64 want) := (b2.cell (p := ⟨H, 1, none⟩) dz).trans d1
    have e2 : w2.cell? ⟨H, 2, none⟩ = some (.int .i64 o) := (b2.cell (p := ⟨H, 2, none⟩) dz).trans d2
    have ez : H < w2.heap.size := Nat.lt_of_lt_of_le dz b2.size
    have NO := hid (nodes_is b n w2 G2.out.c0 G2.out.c1)
    clear g2 b2 TU B1 G1 T1 d1 d2 dz
    go_wp2_with fail
    go_at_call 40
    refine NO.out.mono ?_
    rintro e w' ⟨rfl, rfl⟩
    have E0 : Hid (w2.cell? ⟨H, 1, none⟩ = some (.int .i64 want) ∧ w2.cell? ⟨H, 2, none⟩ = some (.int .i64 o) ∧ H < w2.heap.size) := ⟨e1, e2, ez⟩
    clear NO e1 e2 ez
    go_wp2_with fail
    go_loopg [6, 7, 9, 22] n (fun g _ _ _ i wr => ∃ k : Nat, k ≤ n ∧ n - k ≤ g ∧ i = .int .i64 k ∧ Aside (∀ F' T', F' < k → T' < n → edge L (want : Int) F' T' = true → ∀ r, r ≠ [] → ¬ Wl (edge L (o : Int)) n T' r F') ∧ Aside (Graph wr b n r bk ck L ∧ Graph wr tb n tr tbk tck (turnL L n) ∧ Tab wr) ∧ Aside (Below H w wr) ∧ Aside (wr.cell? ⟨H, 1, none⟩ = some (.int .i64 want) ∧ wr.cell? ⟨H, 2, none⟩ = some (.int .i64 o) ∧ H < wr.heap.size))
    case atStart => exact ⟨0, Nat.zero_le _, by omega, rfl, fun F' T' h1 => by omega, ⟨G2.out, U2.out, T2.out⟩, B2.out, E0.out⟩
    case round =>
      clear G2 U2 T2 B2 E0
      obtain ⟨F, hF, hg, rfl, NX, GX, BX, EX⟩ := hrel
      by_cases hlt : F < n
      · have hlti : (F : Int) < n := by omega
        obtain ⟨e1, e2, ez⟩ := EX.out
        have RE := hid (reached_is tb n tr F tbk tck (turnL L n) (o : Int) wr GX.out.2.1 hlt GX.out.2.2)
        go_wp2_with fail
        go_at_call 41
        refine RE.out.mono ?_
        rintro e w3 ⟨⟨fb, M, rfl, lm, hm⟩, b3⟩
        have HM : Hid (∀ x, M x = true ↔ (x < n ∧ ∃ q, q ≠ [] ∧ Wl (edge L (o : Int)) n x q F)) := fun x => (hm x).trans (turn_back hlt)
        have LM := hid lm
        have B3 : Hid (Below H w w3) := BX.out.trans (b3.mono (Nat.le_of_lt ez))
        have G3 := hid (GX.out.1.later b3)
        have U3 := hid (GX.out.2.1.later b3)
        have T3 := hid (GX.out.2.2.later b3)
        have f1 : w3.cell? ⟨H, 1, none⟩ = some (.int .i64 want) := (b3.cell (p := ⟨H, 1, none⟩) ez).trans e1
        have f2 : w3.cell? ⟨H, 2, none⟩ = some (.int .i64 o) := (b3.cell (p := ⟨H, 2, none⟩) ez).trans e2
        have fz : H < w3.heap.size := Nat.lt_of_lt_of_le ez b3.size
        clear lm hm b3 RE GX BX EX e1 e2 ez
        have OU := hid (out_ok b n r F bk ck L (want : Int) w3 G3.out hlt T3.out)
        go_wp2_with fail
        go_at_call 42
        refine OU.out.mono ?_
        rintro e w4 ⟨⟨ov, rfl, i4⟩, b4⟩
        have hls := lst_le (endsF L F (want : Int) 4) n
        have hlsi : ((lst (endsF L F (want : Int) 4) n).length : Int) ≤ 300 := by omega
        have O4 := hid (i4.mono (B' := 0) (Nat.zero_le _))
        obtain ⟨oa, oc, hov⟩ := i4.form
        subst hov
        have L4 := hid (LM.out.later b4)
        have B4 : Hid (Below H w w4) := B3.out.trans (b4.mono (Nat.le_of_lt fz))
        have G4 := hid (G3.out.later b4)
        have U4 := hid (U3.out.later b4)
        have T4 := hid (T3.out.later b4)
        have E4 : Hid (w4.cell? ⟨H, 1, none⟩ = some (.int .i64 want) ∧ w4.cell? ⟨H, 2, none⟩ = some (.int .i64 o) ∧ H < w4.heap.size) := ⟨(b4.cell (p := ⟨H, 1, none⟩) fz).trans f1, (b4.cell (p := ⟨H, 2, none⟩) fz).trans f2, Nat.lt_of_lt_of_le fz b4.size⟩
        clear i4 b4 OU LM B3 G3 U3 T3 f1 f2 fz
        go_wp2_with fail
        go_loopg [9, 36] (lst (endsF L F (want : Int) 4) n).length (fun g2 _ i wq => ∃ (j t : Nat), j ≤ (lst (endsF L F (want : Int) 4) n).length ∧ (lst (endsF L F (want : Int) 4) n).length - j ≤ g2 ∧ i = .int .i64 j ∧ t ≤ n ∧ Aside (lst (endsF L F (want : Int) 4) t = (lst (endsF L F (want : Int) 4) n).take j) ∧ Aside (∀ T', T' < t → edge L (want : Int) F T' = true → ∀ r, r ≠ [] → ¬ Wl (edge L (o : Int)) n T' r F) ∧ w4 = wq)
        case atStart => exact ⟨0, 0, Nat.zero_le _, by omega, rfl, Nat.zero_le _, by show lst _ 0 = List.take 0 _; simp [lst], fun T' h1 => by omega, rfl⟩
        case round =>
          obtain ⟨j, t, hj, hg2, rfl, htn, LT, MX, rfl⟩ := hrel
          by_cases hjl : j < (lst (endsF L F (want : Int) 4) n).length
          · have hjli : (j : Int) < (lst (endsF L F (want : Int) 4) n).length := by omega
            obtain ⟨a', c', e', hA⟩ := O4.out.arg
            injection e' with e1 e2 e3
            obtain ⟨bz, oz, hz1, cj⟩ := hA j (by rw [List.length_map]; exact hjl)
            rw [← e1] at hz1
            subst hz1
            have ej : (List.map (fun x : Nat => (x : Int)) (lst (endsF L F (want : Int) 4) n)).getD j 0 = (((lst (endsF L F (want : Int) 4) n).getD j 0 : Nat) : Int) := by simp [List.getD, hjl]
            rw [ej] at cj
            obtain ⟨m1, m2, m3, m4, m5⟩ := lst_next (endsF L F (want : Int) 4) n t j htn LT.out hjl
            generalize (lst (endsF L F (want : Int) 4) n).getD j 0 = T at *
            obtain ⟨cm, fm⟩ := L4.out.cell T m2
            have hTi : (T : Int) < n := by omega
            have M3 := hid m3
            have M4 := hid m4
            have M5 := hid m5
            clear m1 m3 m4 m5 ej hA e1 e2 e3 LT
            cases hM : M T with
            | false =>
              rw [hM] at cm
              have MN : Hid (∀ T', T' < T + 1 → edge L (want : Int) F T' = true → ∀ r, r ≠ [] → ¬ Wl (edge L (o : Int)) n T' r F) := fun T' h1 h2 r hr hwl => by
                by_cases h3 : T' < t
                · exact MX.out T' h3 h2 r hr hwl
                · by_cases h4 : T' = T
                  · subst h4
                    have := (HM.out T').2 ⟨m2, r, hr, hwl⟩
                    rw [hM] at this
                    cases this
                  · have := M4.out T' (by omega) (by omega)
                    unfold edge at h2
                    rw [this] at h2
                    cases h2
              clear hM MX
              go_wp2_with fail
              go_roundg ((lst (endsF L F (want : Int) 4) n).length - (j + 1))
              case measure => omega
              case rel => exact ⟨j + 1, T + 1, by omega, by omega, by go_num, by omega, M5.out, MN.out, rfl⟩
            | true =>
              rw [hM] at cm
              obtain ⟨_, hbk⟩ := (HM.out T).1 hM
              have FC : Hid (FstC (edge L (want : Int)) (edge L (o : Int)) n F T) := ⟨hlt, m2, M3.out, hbk, fun F' T' h1 h2 h3 h4 r hr hwl => by
                by_cases h5 : F' < F
                · exact NX.out F' T' h5 h2 h4 r hr hwl
                · obtain ⟨rfl, h6⟩ : F' = F ∧ T' < T := by omega
                  by_cases h7 : T' < t
                  · exact MX.out T' h7 h4 r hr hwl
                  · have := M4.out T' (by omega) h6
                    unfold edge at h4
                    rw [this] at h4
                    cases h4⟩
              have HB := hid hbk
              clear hM MX NX hbk M4 M5
              obtain ⟨W5, hW5⟩ : ∃ W5, w4.alloc (.cells #[.int .i64 F] 3) = W5 := ⟨_, rfl⟩
              have b5 : Below w4.heap.size w4 W5 := by rw [← hW5]; exact below_box w4 _
              have hb5 : W5.heap[w4.heap.size]? = some (.cells #[.int .i64 (F : Int)] 3) := by rw [← hW5]; exact heap_alloc_new w4 _
              have z5 : W5.heap.size = w4.heap.size + 1 := by rw [← hW5]; simp
              obtain ⟨e1, e2, ez⟩ := E4.out
              have e25 : W5.cell? ⟨H, 2, none⟩ = some (.int .i64 o) := (b5.cell (p := ⟨H, 2, none⟩) ez).trans e2
              have B5 := hid b5
              have Z5 := hid z5
              have H5 := hid hb5
              have EZ := hid ez
              have SH := hid (shortest_any b n r bk ck L (o : Int) (T : Int) (F : Int) W5 (G4.out.later b5) (T4.out.later b5))
              have HT := hid m2
              obtain ⟨K4, hK4⟩ : ∃ K4, w4.heap.size = K4 := ⟨_, rfl⟩
              rw [hK4] at H5 Z5
              have HK4 := hid hK4
              clear b5 hb5 z5 ez U4 L4 O4 HM
              go_wp2_with fail
              go_at_call 43
              refine SH.out.mono ?_
              rintro e w6 ⟨⟨v6, l6, rfl, i6, al⟩, b6⟩
              obtain ⟨q, rfl, hbest, hql⟩ := al.back HT.out hlt HB.out
              have I6 := hid i6
              have HBE := hid hbest
              have HQL := hid hql
              have B6 := hid b6
              have h56 : w6.heap[K4]? = some (.cells #[.int .i64 (F : Int)] 3) := (b6.block K4 (by have := Z5.out; omega)).trans H5.out
              have H56 := hid h56
              have hl6 : q.length + 1 ≤ 301 := by omega
              have HL6 := hid hl6
              obtain ⟨va, vc, hv6⟩ := i6.form
              subst hv6
              clear i6 al b6 hbest hql SH h56 hl6 H5
              go_wp2_with (at_builtin; refine wpList_append_many _ rfl _ _ rfl (fun g => K4 ≤ g) ?qP [(F : Int)] K4 0 1 #[.int .i64 (F : Int)] rfl ?qg ?qh ?q1 ?q2 ?q3 ?q4 (T :: q) W5.heap.size _ rfl ?qi ?ql ?_)
              case qP => exact fun g hg => by have := B6.out.size; have := Z5.out; omega
              case qg => exact Nat.le_refl _
              case qh => exact H56.out
              case q1 => simp
              case q2 => simp [maxLen]
              case q3 => simp
              case q4 => intro j hj; simp at hj; subst hj; rfl
              case qi => exact I6.out
              case ql => have := HL6.out; simp; omega
              intro v7 w7 pt gr
              have P7 : Hid (Part (fun g => w.heap.size ≤ g) w7 v7 ((F :: T :: q).map fun z : Nat => (z : Int))) := part_mono pt (fun g _ hg => by have := HK4.out; have := EZ.out; have := HH.out; omega)
              have B7 : Hid (Below w.heap.size w w7) := by
                have s4 := HK4.out
                have s5 := EZ.out
                have s6 := HH.out
                have x1 : Below w.heap.size w W5 := by
                  rw [s6]
                  exact B4.out.trans (B5.out.mono (Nat.le_of_lt s5))
                have x2 := x1.trans (B6.out.mono x1.size)
                exact x2.trans (gr.below w.heap.size (fun k hk => by omega) x2.size)
              clear pt gr I6 B6 H56 HL6 B5 Z5
              go_wp2_with fail
              go_ret
              exact ⟨.inl ⟨F, T, q, v7, rfl, FC.out, HBE.out, HQL.out, P7.out⟩, B7.out⟩
          · have hjli : ¬ (j : Int) < (lst (endsF L F (want : Int) 4) n).length := by omega
            have le := lst_end (endsF L F (want : Int) 4) n t j htn LT.out hjl
            have NN : Hid (∀ F' T', F' < F + 1 → T' < n → edge L (want : Int) F' T' = true → ∀ r, r ≠ [] → ¬ Wl (edge L (o : Int)) n T' r F') := fun F' T' h1 h2 h3 r hr hwl => by
              by_cases h4 : F' < F
              · exact NX.out F' T' h4 h2 h3 r hr hwl
              · obtain rfl : F' = F := by omega
                by_cases h5 : T' < t
                · exact MX.out T' h5 h3 r hr hwl
                · have := le T' (by omega) h2
                  unfold edge at h3
                  rw [this] at h3
                  cases h3
            clear le MX LT NX
            go_wp2_with fail
            go_roundg (n - (F + 1))
            case measure => omega
            case rel => exact ⟨F + 1, by omega, by omega, by go_num, NN.out, ⟨G4.out, U4.out, T4.out⟩, B4.out, E4.out⟩
      · have hlti : ¬ (F : Int) < n := by omega
        have NC : Hid (NoC (edge L (want : Int)) (edge L (o : Int)) n) := fun F' T' h1 h2 h3 r hr => NX.out F' T' (by omega) h2 h3 r hr
        clear NX
        go_wp2_with fail
        go_ret
        exact ⟨.inr ⟨rfl, NC.out⟩, by rw [HH.out]; exact BX.out⟩
end Go.Proofs.YtdihbeffomibeaaGreatDoor
