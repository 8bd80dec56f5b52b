/-
  The document's order: behind.
-/
import Derived.Test.YtmnfmilgpglfcaaK6
namespace Go.Proofs.Ytmnfmilgpglfcaa
set_option linter.unusedVariables false
set_option linter.unusedSimpArgs false
open Go.RowKit

theorem Try.info4b : (Try.prog.info? 4).map (fun i => (i.zero, i.size, i.bytes)) = some (some (.bool false), 1, 1) := by kernel_rfl
theorem or_not {a b : Bool} (h : (a || !b) = true) : a = true ∨ (a = false ∧ b = false) := by
  cases a <;> cases b <;> simp_all
/-- How much is left. -/
def leftQ (n : Nat) (M : Nat → Bool) (l : List Nat) : Nat := Pop.cnt (fun v => !M v) n + l.length
theorem leftQ_take (n : Nat) (M : Nat → Bool) (x : Nat) (l : List Nat) : leftQ n M (x :: l) = leftQ n M l + 1 := by
  unfold leftQ
  rw [List.length_cons]
  omega
theorem leftQ_meet (n : Nat) (M : Nat → Bool) (u : Nat) (l : List Nat) (hu : u < n) (hM : M u = false) : leftQ n (fun v => v == u || M v) (l ++ [u]) = leftQ n M l := by
  have h := cnt_drop (fun v => !M v) u n hu
  have e : (fun v => !(v == u || M v)) = fun j => !(j == u) && !M j := by funext v; simp [Bool.not_or]
  unfold leftQ
  rw [e, List.length_append, List.length_singleton]
  simp [hM] at h
  omega
theorem leftQ_first (n s : Nat) : leftQ n (fun _ => false) [s] ≤ n + 1 := by
  unfold leftQ
  have := Pop.cnt_le (fun v => !(fun _ => false : Nat → Bool) v) n
  rw [List.length_singleton]
  omega
def natI (l : List Nat) : List Int := l.map fun x : Nat => (x : Int)
theorem natI_snoc (l : List Nat) (x : Nat) : natI (l ++ [x]) = natI l ++ [(x : Int)] := by simp [natI]
theorem natI_len (l : List Nat) : (natI l).length = l.length := by simp [natI]
theorem sel_take (t : Bool) (ps : List (Nat × Nat × Bool)) (j : Nat) (hj : j < ps.length) : sel t (ps.take (j + 1)) = if (ps[j].2.2 || !t) = true then sel t (ps.take j) ++ [(ps[j].1, ps[j].2.1)] else sel t (ps.take j) := by
  rw [List.take_succ_eq_append_getElem hj, sel_snoc]

set_option maxHeartbeats 8000000 in
set_option maxRecDepth 100000 in
theorem behind_is (H b n : Nat) (ps : List (Nat × Nat × Bool)) (s : Nat) (t : Bool) (w : World) (h : RefO H w b n ps) (hs : s < n) (hl : ps.length ≤ 1000) :
    Calls Try.prog 26 #[.pointer (some ⟨b, 0, none⟩), .int .i64 s, .bool t] w fun e w' => (∃ mk, e = .returned (.slice (some ⟨mk, 0, none⟩) n n) ∧ LayB w' mk n (clR (sel t ps) s)) ∧ Below w.heap.size w w' := by
  have hn3 := h.bound
  have hmk := run_make_row' (P := Try.prog) 63 4 (.bool false) 1 Try.underlying63 Try.info4b rfl .i64 .i64 n (by omega) (by omega)
  rw [made_bools] at hmk
  have R := hid h
  have hni : (n : Int) ≤ 300 := by omega
  have hn0 : (0 : Int) ≤ n := by omega
  have hli : (ps.length : Int) ≤ 1000 := by omega
  obtain ⟨ao, cap, c0, c1, hc⟩ := h.form
  have C1 := hid c1
  have HC := hid hc
  have HLT := hid h.lt
  clear h c1 hc
  go_enter Try.func26, Try.ntmps26
  go_wp2_with fail
  clear hmk c0
  have B0 : Hid (Below w.heap.size w ((w.alloc (.cells (Array.replicate n (.bool false)) 4)).alloc (.cells #[.int .i64 s] 3))) := (below_box _ _).alloc (by simp) _
  have L0 : Hid (LayB ((w.alloc (.cells (Array.replicate n (.bool false)) 4)).alloc (.cells #[.int .i64 s] 3)) w.heap.size n (fun _ => false)) := ⟨_, (Lib.alloc_old _ _ w.heap.size (by simp)).trans (heap_alloc_new w _), by simp, fun j hj => by simp [hj]⟩
  have P0 : Hid (Part (fun g => g ≠ w.heap.size ∧ w.heap.size ≤ g) ((w.alloc (.cells (Array.replicate n (.bool false)) 4)).alloc (.cells #[.int .i64 s] 3)) (.slice (some ⟨w.heap.size + 1, 0, none⟩) 1 1) (natI [s])) := by
    have := heap_alloc_new (w.alloc (.cells (Array.replicate n (.bool false)) 4)) (.cells #[.int .i64 s] 3)
    have e : (w.alloc (.cells (Array.replicate n (.bool false)) 4)).heap.size = w.heap.size + 1 := by simp
    rw [e] at this
    exact .inr ⟨w.heap.size + 1, 0, 1, #[.int .i64 s], rfl, by omega, this, by simp [natI], by simp [maxLen], by simp, fun j hj => by
      have : j = 0 := by simp [natI] at hj; omega
      subst this
      rfl⟩
  generalize (w.alloc (.cells (Array.replicate n (.bool false)) 4)).alloc (.cells #[.int .i64 s] 3) = W0 at *
  have hf := leftQ_first n s
  go_loopg [8] 302 (fun g qv wr => ∃ (M : Nat → Bool) (l : List Nat), leftQ n M l ≤ g ∧ leftQ n M l ≤ 301 ∧ Aside (Sr (sel t ps) s M l) ∧ Aside (Part (fun g => g ≠ w.heap.size ∧ w.heap.size ≤ g) wr qv (natI l)) ∧ Aside (LayB wr w.heap.size n M) ∧ Aside (Below w.heap.size w wr))
  case atStart => exact ⟨_, _, by omega, by omega, Sr.first _ s, P0.out, L0.out, B0.out⟩
  case round =>
    clear P0 L0 B0 hf
    obtain ⟨M, l, hg, hb, SX, PX, LX, BX⟩ := hrel
    cases l with
    | nil =>
      have EN := hid SX.out.ends
      obtain ⟨qa, qc, rfl⟩ := PX.out.form
      rw [natI_len, List.length_nil]
      clear SX PX
      go_wp2_with fail
      go_ret
      have LF := LX.out
      rw [EN.out] at LF
      exact ⟨⟨_, rfl, LF⟩, BX.out⟩
    | cons x l =>
      have hll : l.length ≤ 300 := by have h2 := hb; rw [leftQ_take] at h2; unfold leftQ at h2; omega
      obtain ⟨Lq, hLq⟩ : ∃ q, leftQ n M l = q := ⟨_, rfl⟩
      rw [leftQ_take, hLq] at hg hb
      have LQ := hid hLq
      clear hLq
      rcases PX.out with ⟨_, h0⟩ | ⟨gb, off, qc, cur, rfl, hPg, hgg, hc1, hc2, hsz, hat⟩
      · cases h0
      have c1 : wr.cell? ⟨gb, off, none⟩ = some (.int .i64 x) := (Lib.cell_of_heap hgg off).trans (hat 0 (by simp [natI]))
      rw [natI_len, List.length_cons] at hc1 ⊢
      have hli2 : (0 : Int) < (l.length : Int) + 1 := by omega
      have hll2 : (l.length : Int) ≤ 300 := by omega
      unfold maxLen at hc2
      have hqi : (qc : Int) ≤ 9223372036854775807 := by omega
      have hqc : (l.length : Int) + 1 ≤ qc := by omega
      have hat' : ∀ j, j < l.length → cur[off + 1 + j]? = some (.int .i64 ((natI l).getD j 0)) := fun j hj => by
        have := hat (j + 1) (by rw [natI_len, List.length_cons]; omega)
        rw [show off + (j + 1) = off + 1 + j from by omega] at this
        simpa [natI] using this
      have d1 : wr.cell? ⟨b, 1, none⟩ = some (.slice ao ps.length cap) := (BX.out.cell (p := ⟨b, 1, none⟩) (World.block_lt_of_cell? _ _ C1.out)).trans C1.out
      have SQ := hid SX.out.open'
      clear hat SX PX
      by_cases h1 : qc = 1
      focus
        subst h1
        have hl0 : l.length = 0 := by omega
        have hl00 : l = [] := List.length_eq_zero_iff.1 hl0
        have PN : Hid (Part (fun g => g ≠ w.heap.size ∧ w.heap.size ≤ g) wr (.slice (some ⟨gb, off, none⟩) l.length 0) (natI l)) := .inr ⟨gb, off, 0, cur, by rw [natI_len], hPg, hgg, by rw [natI_len]; omega, by simp [maxLen], by omega, fun j hj => by rw [natI_len] at hj; omega⟩
        clear hgg hPg hat' hc1 hc2 hsz hl0
        subst hl00
        go_wp2_with fail
      rotate_left
      focus
        have PN : Hid (Part (fun g => g ≠ w.heap.size ∧ w.heap.size ≤ g) wr (.slice (some ⟨gb, off + 1, none⟩) l.length (qc - 1)) (natI l)) := .inr ⟨gb, off + 1, qc - 1, cur, by rw [natI_len], hPg, hgg, by rw [natI_len]; omega, by unfold maxLen; omega, by omega, by rw [natI_len]; exact hat'⟩
        clear hgg hPg hat' hc1 hc2 hsz
        go_wp2_with fail
      all_goals
        clear c1 d1
        generalize wr = wo at *
        go_loopg [8, 32] ps.length (fun g2 qv i wr2 => ∃ (j : Nat) (M' : Nat → Bool) (l' : List Nat), j ≤ ps.length ∧ ps.length - j ≤ g2 ∧ i = .int .i64 j ∧ Aside (leftQ n M' l' = Lq) ∧ Aside (Sq (sel t ps) s M' x l' (sel t (ps.take j))) ∧ Aside (Part (fun g => g ≠ w.heap.size ∧ w.heap.size ≤ g) wr2 qv (natI l')) ∧ Aside (LayB wr2 w.heap.size n M') ∧ Aside (Below w.heap.size w wr2))
        case atStart => exact ⟨0, M, _, Nat.zero_le _, by omega, rfl, LQ.out, (by show Sq _ _ _ _ _ _; rw [List.take_zero]; exact SQ.out), PN.out, LX.out, BX.out⟩
        case round =>
          clear PN SQ LX BX LQ
          obtain ⟨j, M', l', hj, hg2, rfl, LQ, SQ, PN, LX, BX⟩ := hrel
          by_cases hjl : j < ps.length
          · have hjli : (j : Int) < ps.length := by omega
            obtain ⟨rg, rfl, e0, e1, e2⟩ := HC.out j hjl
            have f0 : wr.cell? ⟨rg, j * 3, none⟩ = some (.int .i64 ps[j].1) := (BX.out.cell (p := ⟨rg, j * 3, none⟩) (World.block_lt_of_cell? _ _ e0)).trans e0
            have f1 : wr.cell? ⟨rg, j * 3 + 1, none⟩ = some (.int .i64 ps[j].2.1) := (BX.out.cell (p := ⟨rg, j * 3 + 1, none⟩) (World.block_lt_of_cell? _ _ e1)).trans e1
            have f2 : wr.cell? ⟨rg, j * 3 + 2, none⟩ = some (.bool ps[j].2.2) := (BX.out.cell (p := ⟨rg, j * 3 + 2, none⟩) (World.block_lt_of_cell? _ _ e2)).trans e2
            have ST := hid (sel_take t ps j hjl)
            have PB := (HLT.out ps[j] (List.getElem_mem hjl)).2
            have ME := hid (fun hu => sel_mem (t := t) (List.getElem_mem hjl) hu)
            clear e0 e1 e2
            generalize ps[j].1 = pa at *
            generalize ps[j].2.1 = pb at *
            generalize ps[j].2.2 = py at *
            obtain ⟨cm, fm⟩ := LX.out.cell pb PB
            have hpb : (pb : Int) < n := by omega
            have BN : ∀ B, Hid (Below w.heap.size w (wr.alloc B)) := fun B => BX.out.trans ((below_box wr _).mono BX.out.size)
            have LN : ∀ B, Hid (LayB (wr.alloc B) w.heap.size n M') := fun B => LX.out.later (below_box wr _)
            have PN2 : ∀ B, Hid (Part (fun g => g ≠ w.heap.size ∧ w.heap.size ≤ g) (wr.alloc B) u8 (natI l')) := fun B => PN.out.gro (Gro.of_below (P := fun _ => False) (below_box wr _)) (fun _ _ h => h)
            have hmk : w.heap.size < wr.heap.size := by obtain ⟨c, q1, _⟩ := LX.out; exact blt q1
            have cm' : ∀ o, (wr.alloc o).cell? ⟨w.heap.size, pb, none⟩ = some (.bool (M' pb)) := fun o => Lib.cell?_alloc_some _ cm
            by_cases hax : pa = x
            · have hq : ((pa : Int) == (x : Int)) = true := by simp [hax]
              cases hu : (py || !t) with
              | true =>
                cases hM : M' pb with
                | true =>
                  have SN : Hid (Sq (sel t ps) s M' x l' (sel t (ps.take (j + 1)))) := by rw [ST.out, if_pos hu]; exact SQ.out.pass (pa, pb) (fun _ => hM)
                  rw [hM] at cm cm'
                  have hu2 : py = true ∨ (py = false ∧ t = false) := or_not hu
                  clear SQ PN ST ME hax hu hM
                  rcases hu2 with rfl | ⟨rfl, rfl⟩
                  all_goals
                    go_wp2_with fail
                    go_roundg (ps.length - (j + 1))
                    · exact ⟨j + 1, M', l', by omega, by omega, by go_num, LQ.out, SN.out, (PN2 _).out, (LN _).out, (BN _).out⟩
                    · omega
                | false =>
                  have SN : Hid (Sq (sel t ps) s (fun v => v == pb || M' v) x (l' ++ [pb]) (sel t (ps.take (j + 1)))) := by rw [ST.out, if_pos hu]; exact SQ.out.meet (pa, pb) (ME.out hu) hax
                  have LM := hid ((leftQ_meet n M' pb l' PB hM).trans LQ.out)
                  rw [hM] at cm cm'
                  have fm' : ∀ o, (wr.alloc o).frozen? ⟨w.heap.size, pb, none⟩ = false := fun o => ((below_box wr o).frozen (p := ⟨w.heap.size, pb, none⟩) hmk).trans fm
                  have hu2 : py = true ∨ (py = false ∧ t = false) := or_not hu
                  have hlq : l'.length ≤ 301 := by have := LQ.out; unfold leftQ at this; omega
                  obtain ⟨qa, qn, qcp, hu8⟩ : ∃ x y z, u8 = .slice x y z := by obtain ⟨x, y, e⟩ := PN.out.form; exact ⟨x, _, y, e⟩
                  subst hu8
                  have BX1 : Below w.heap.size w (wr.setCell ⟨w.heap.size, pb, none⟩ (.bool true)) := BX.out.setCell (Nat.le_refl _) _
                  have LA : Hid (LayB (((wr.setCell ⟨w.heap.size, pb, none⟩ (.bool true)).alloc (.cells #[.int .i64 pa, .int .i64 pb, .bool py] 51)).alloc (.cells #[.int .i64 pb] 3)) w.heap.size n (fun v => v == pb || M' v)) := ((LX.out.put pb PB).later (below_box _ _)).later (below_box _ _)
                  have NA : Hid (Part (fun g => g ≠ w.heap.size ∧ w.heap.size ≤ g) (((wr.setCell ⟨w.heap.size, pb, none⟩ (.bool true)).alloc (.cells #[.int .i64 pa, .int .i64 pb, .bool py] 51)).alloc (.cells #[.int .i64 pb] 3)) (.slice qa qn qcp) (natI l')) := ((PN.out.gro (gro_set _ ⟨w.heap.size, pb, none⟩ (.bool true)) (fun k h1 h2 => h1.1 h2)).gro (Gro.of_below (P := fun _ => False) (below_box _ _)) (fun _ _ h => h)).gro (Gro.of_below (P := fun _ => False) (below_box _ _)) (fun _ _ h => h)
                  have BA : Hid (Below w.heap.size w (((wr.setCell ⟨w.heap.size, pb, none⟩ (.bool true)).alloc (.cells #[.int .i64 pa, .int .i64 pb, .bool py] 51)).alloc (.cells #[.int .i64 pb] 3))) := (BX1.trans ((below_box _ _).mono BX1.size)).trans ((below_box _ _).mono (by simp; omega))
                  have CA : Hid ((((wr.setCell ⟨w.heap.size, pb, none⟩ (.bool true)).alloc (.cells #[.int .i64 pa, .int .i64 pb, .bool py] 51)).alloc (.cells #[.int .i64 pb] 3)).cell? ⟨wr.heap.size + 1, 0, none⟩ = some (.int .i64 pb)) := by
                    have := new_cells ((wr.setCell ⟨w.heap.size, pb, none⟩ (.bool true)).alloc (.cells #[.int .i64 pa, .int .i64 pb, .bool py] 51)) #[.int .i64 pb] 3 0
                    exact hid (by simpa using this)
                  have HP : Hid (∀ g, (((wr.setCell ⟨w.heap.size, pb, none⟩ (.bool true)).alloc (.cells #[.int .i64 pa, .int .i64 pb, .bool py] 51)).alloc (.cells #[.int .i64 pb] 3)).heap.size ≤ g → g ≠ w.heap.size ∧ w.heap.size ≤ g) := fun g hg => by simp at hg; omega
                  clear BX1
                  clear SQ PN ST ME hax hu hM PN2 LN BN LX BX
                  rcases hu2 with rfl | ⟨rfl, rfl⟩
                  all_goals
                    go_wp2_with (at_builtin; refine wpList_append_part _ rfl _ _ rfl (fun g => g ≠ w.heap.size ∧ w.heap.size ≤ g) HP.out _ _ rfl NA.out (wr.heap.size + 1) pb 1 rfl CA.out (by rw [natI_len]; omega) ?_; intro v' w4 q1 q2; obtain ⟨ao', nl', cp', rfl⟩ : ∃ x y z, v' = .slice x y z := (by obtain ⟨x, y, e⟩ := q1.form; exact ⟨x, _, y, e⟩); have Q1 := hid q1; have Q3 := hid (LA.out.gro q2 (fun h => h.1 rfl)); have Q4 := hid (BA.out.trans (q2.below w.heap.size (fun k hk => hk.2) BA.out.size)); clear q1 q2)
                    go_roundg (ps.length - (j + 1))
                    · exact ⟨j + 1, _, _, by omega, by omega, by go_num, LM.out, SN.out, (by show Part _ _ _ _; rw [natI_snoc]; exact Q1.out), Q3.out, Q4.out⟩
                    · omega
              | false =>
                have SN : Hid (Sq (sel t ps) s M' x l' (sel t (ps.take (j + 1)))) := by rw [ST.out, if_neg (by rw [hu]; decide)]; exact SQ.out
                simp only [Bool.or_eq_false_iff, Bool.not_eq_false'] at hu
                obtain ⟨rfl, rfl⟩ := hu
                clear SQ PN ST ME hax
                go_wp2_with fail
                go_roundg (ps.length - (j + 1))
                · exact ⟨j + 1, M', l', by omega, by omega, by go_num, LQ.out, SN.out, (PN2 _).out, (LN _).out, (BN _).out⟩
                · omega
            · have hq : ((pa : Int) == (x : Int)) = false := by simp; omega
              have SN : Hid (Sq (sel t ps) s M' x l' (sel t (ps.take (j + 1)))) := by
                rw [ST.out]
                split
                · exact SQ.out.pass (pa, pb) (fun e => absurd e hax)
                · exact SQ.out
              clear SQ PN ST ME hax
              go_wp2_with fail
              go_roundg (ps.length - (j + 1))
              · exact ⟨j + 1, M', l', by omega, by omega, by go_num, LQ.out, SN.out, (PN2 _).out, (LN _).out, (BN _).out⟩
              · omega
          · have hjli : ¬ (j : Int) < ps.length := by omega
            have SE : Hid (Sr (sel t ps) s M' l') := by
              have h := SQ.out
              rw [List.take_of_length_le (by omega)] at h
              exact h.close
            clear SQ
            go_wp2_with fail
            go_roundg Lq
            · exact ⟨M', l', by have := LQ.out; omega, by have := LQ.out; omega, SE.out, PN.out, LX.out, BX.out⟩
            · omega
end Go.Proofs.Ytmnfmilgpglfcaa
