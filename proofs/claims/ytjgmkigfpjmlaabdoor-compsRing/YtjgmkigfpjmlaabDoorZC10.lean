/-
  The search for components: walk.
-/
import Derived.Test.YtjgmkigfpjmlaabDoorZH
import Derived.Test.YtjgmkigfpjmlaabDoorZI
import Derived.Test.YtjgmkigfpjmlaabDoorZK
namespace Go.Proofs.YtjgmkigfpjmlaabDoor
set_option linter.unusedVariables false
set_option linter.unusedSimpArgs false
open Go.RowKit

theorem flat_at (A : List Stp) (p : Stp) : (waysC (A ++ [p]))[A.length * 2]? = some (.int .i64 (p.1.1 : Int)) ∧ (waysC (A ++ [p]))[A.length * 2 + 1]? = some p.2 := by
  rw [waysC_snoc]
  constructor
  · rw [List.getElem?_append_right (by rw [waysC_len]; omega), waysC_len, Nat.sub_self]
    rfl
  · rw [List.getElem?_append_right (by rw [waysC_len]; omega), waysC_len, show A.length * 2 + 1 - A.length * 2 = 1 by omega]
    rfl
/-- The last stop in memory. -/
theorem Sr.top {w : World} {H sb mk : Nat} {outf wv ov fv : Value} {n come : Nat} {num low : Nat → Nat} {A : List Stp} {p : Stp} {opn : List Nat} {fs : List (List Nat × Value)} (h : Sr w H sb mk outf wv ov fv n come num low (A ++ [p]) opn fs) :
    ∃ gw cw, wv = .slice (some ⟨gw, 0, none⟩) (A.length + 1) cw ∧ A.length + 1 ≤ cw ∧ cw ≤ maxLen ∧ H ≤ gw ∧ w.cell? ⟨gw, A.length * 2, none⟩ = some (.int .i64 (p.1.1 : Int)) ∧ w.cell? ⟨gw, A.length * 2 + 1, none⟩ = some p.2 ∧ w.frozen? ⟨gw, A.length * 2 + 1, none⟩ = false := by
  have hr := h.wayR
  have hr' := hr
  rw [List.length_append, List.length_singleton] at hr
  rcases hr.2 with ⟨_, hn⟩ | ⟨gw, cw, cur, hv, hB, hh, h1, h2, h3, h4⟩
  · omega
  · obtain ⟨q1, q2⟩ := flat_at A p
    have e1 := hr.cells (g := gw) (by rw [hv]; rfl) _ _ q1
    have e2 := hr.cells (g := gw) (by rw [hv]; rfl) _ _ q2
    rw [Addr.add_lit, Nat.zero_add] at e1 e2
    exact ⟨gw, cw, hv, h1, h2, hB, e1, e2, Lib.frozen_of_heap hh _⟩
theorem Sr.openForm {w : World} {H sb mk : Nat} {outf wv ov fv : Value} {n come : Nat} {num low : Nat → Nat} {ws : List Stp} {opn : List Nat} {fs : List (List Nat × Value)} (h : Sr w H sb mk outf wv ov fv n come num low ws opn fs) (h0 : 0 < opn.length) : ∃ g cap, ov = .slice (some ⟨g, 0, none⟩) opn.length cap := by
  rcases h.opnR.2 with ⟨_, hn⟩ | ⟨g, cap, cur, hv, _⟩
  · omega
  · exact ⟨g, cap, hv⟩
/-- What the walk has at each turn. -/
structure Wk (Wb w : World) (sb mk gb lb : Nat) (n : Nat) (E : Nat → Nat → Bool) (num0 : Nat → Nat) (v : Nat) (wv ov fv : Value) (come : Nat) (num low : Nat → Nat) (ws : List Stp) (opn : List Nat) (fs : List (List Nat × Value)) : Prop where
  sr : Sr w Wb.heap.size sb mk (outF gb lb) wv ov fv n come num low ws opn fs
  tj : Tj E n come num low (ws.map Prod.fst) opn (fs.map Prod.fst)
  go : num v ≠ 0 ∧ ∀ x, num0 x ≠ 0 → num x ≠ 0
  be : Below Wb.heap.size Wb w
theorem map_snoc (A : List Stp) (p : Stp) : (A ++ [p]).map Prod.fst = A.map Prod.fst ++ [p.1] := by simp
section
variable {Wb w w' : World} {sb mk gb lb n : Nat} {E : Nat → Nat → Bool} {num0 : Nat → Nat} {v : Nat} {wv ov fv : Value} {come : Nat} {num low : Nat → Nat} {ws A : List Stp} {opn : List Nat} {fs : List (List Nat × Value)}
theorem Wk.later (h : Wk Wb w sb mk gb lb n E num0 v wv ov fv come num low ws opn fs) (hb : Below w.heap.size w w') : Wk Wb w' sb mk gb lb n E num0 v wv ov fv come num low ws opn fs := ⟨h.sr.later hb, h.tj, h.go, h.be.trans (hb.mono h.be.size)⟩
theorem Sr.topAt {H : Nat} {outf : Value} {p : Stp} {gw cw N : Nat} (h : Sr w H sb mk outf (.slice (some ⟨gw, 0, none⟩) N cw) ov fv n come num low (A ++ [p]) opn fs) : w.cell? ⟨gw, A.length * 2, none⟩ = some (.int .i64 (p.1.1 : Int)) ∧ w.cell? ⟨gw, A.length * 2 + 1, none⟩ = some p.2 ∧ w.frozen? ⟨gw, A.length * 2 + 1, none⟩ = false := by
  obtain ⟨gw', cw', e, _, _, _, h1, h2, h3⟩ := h.top
  injection e with e1 e2 e3
  injection e1 with e1
  injection e1 with e1
  subst e1
  exact ⟨h1, h2, h3⟩
theorem Wk.bounds (h : Wk Wb w sb mk gb lb n E num0 v wv ov fv come num low ws opn fs) (hn : n ≤ 300) : ws.length ≤ 300 ∧ opn.length ≤ 300 ∧ fs.length ≤ 300 := by
  have h1 := h.tj.wayLen
  have h2 := h.tj.opnLen
  have h3 := h.tj.fndLen
  rw [List.length_map] at h1 h3
  omega
theorem Wk.leave {u : Nat} {rv : Value} {gw cw : Nat} (h : Wk Wb w sb mk gb lb n E num0 v (.slice (some ⟨gw, 0, none⟩) (A.length + 1) cw) ov fv come num low (A ++ [((u, []), rv)]) opn fs) (hl : low u < num u) (hs : Sr w' Wb.heap.size sb mk (outF gb lb) (.slice (some ⟨gw, 0, none⟩) A.length cw) ov fv n come num low A opn fs) (hb : Below Wb.heap.size Wb w') :
    Wk Wb w' sb mk gb lb n E num0 v (.slice (some ⟨gw, 0, none⟩) A.length cw) ov fv come num low A opn fs := by
  have ht := h.tj
  rw [map_snoc] at ht
  exact ⟨hs, ht.leave hl, h.go, hb⟩
theorem Wk.close {u : Nat} {rv cv fv' wv' ov' : Value} {O1 O2 : List Nat} (h : Wk Wb w sb mk gb lb n E num0 v wv ov fv come num low (A ++ [((u, []), rv)]) (O1 ++ u :: O2) fs) (hl : ¬ low u < num u) (hN : (u :: O2).Nodup) (hs : Sr w' Wb.heap.size sb mk (outF gb lb) wv' ov' fv' n come (putN num (u :: O2) KK) (putN low (u :: O2) KK) A O1 (fs ++ [(srt (u :: O2), cv)])) (hb : Below Wb.heap.size Wb w') :
    Wk Wb w' sb mk gb lb n E num0 v wv' ov' fv' come (putN num (u :: O2) KK) (putN low (u :: O2) KK) A O1 (fs ++ [(srt (u :: O2), cv)]) ∧ todo n (putN num (u :: O2) KK) (A.map Prod.fst) + 1 = todo n num ((A ++ [((u, []), rv)]).map Prod.fst) := by
  have ht := h.tj
  rw [map_snoc] at ht
  refine ⟨⟨hs, ?_, ⟨put_keeps h.go.1, fun x hx => put_keeps (h.go.2 x hx)⟩, hb⟩, ?_⟩
  · rw [List.map_append]
    exact ht.close hl (srt_pair hN) (fun v => srt_mem _ v)
  · rw [map_snoc, todo_put _ _ (fun x hx => by have := ht.known (List.mem_append_right _ hx); omega)]
    exact todo_leave n num u
theorem Wk.enter {u x : Nat} {t l : List Nat} {rv rv' wv' ov' : Value} (h : Wk Wb w sb mk gb lb n E num0 v wv ov fv come num low (A ++ [((u, x :: t), rv)]) opn fs) (h0 : num x = 0) (hl : l = lst (E x) n) (hs : Sr w' Wb.heap.size sb mk (outF gb lb) wv' ov' fv n (come + 1) (updN num x (come + 1)) (updN low x (come + 1)) (A ++ [((u, x :: t), rv)] ++ [((x, l), rv')]) (opn ++ [x]) fs) (hb : Below Wb.heap.size Wb w') :
    Wk Wb w' sb mk gb lb n E num0 v wv' ov' fv (come + 1) (updN num x (come + 1)) (updN low x (come + 1)) (A ++ [((u, x :: t), rv)] ++ [((x, l), rv')]) (opn ++ [x]) fs ∧ todo n (updN num x (come + 1)) ((A ++ [((u, x :: t), rv)] ++ [((x, l), rv')]).map Prod.fst) + 1 ≤ todo n num ((A ++ [((u, x :: t), rv)]).map Prod.fst) := by
  subst hl
  have ht := h.tj
  rw [map_snoc] at ht
  have hxn := ht.edgeIn
  refine ⟨⟨hs, ?_, ⟨upd_keeps h.go.1 (by omega), fun y hy => upd_keeps (h.go.2 y hy) (by omega)⟩, hb⟩, ?_⟩
  · rw [map_snoc, map_snoc]
    exact ht.enter hxn h0 (.inr ⟨_, u, t, rfl⟩)
  · rw [map_snoc]
    exact todo_enter n come x num _ _ hxn h0 (lst_le _ _)
theorem Wk.lower {u x : Nat} {t : List Nat} {rv rv' : Value} (h : Wk Wb w sb mk gb lb n E num0 v wv ov fv come num low (A ++ [((u, x :: t), rv)]) opn fs) (h0 : num x ≠ 0) (hs : Sr w' Wb.heap.size sb mk (outF gb lb) wv ov fv n come num (updN low u (min (low u) (low x))) (A ++ [((u, t), rv')]) opn fs) (hb : Below Wb.heap.size Wb w') :
    Wk Wb w' sb mk gb lb n E num0 v wv ov fv come num (updN low u (min (low u) (low x))) (A ++ [((u, t), rv')]) opn fs ∧ todo n num ((A ++ [((u, t), rv')]).map Prod.fst) + 1 = todo n num ((A ++ [((u, x :: t), rv)]).map Prod.fst) := by
  have ht := h.tj
  rw [map_snoc] at ht
  refine ⟨⟨hs, ?_, h.go, hb⟩, ?_⟩
  · rw [map_snoc]
    exact ht.lower h0
  · rw [map_snoc, map_snoc]
    exact todo_lower n num u x t
end

set_option maxHeartbeats 16000000 in
set_option maxRecDepth 100000 in
theorem walk_is {Wb w : World} {b n r : Nat} {bk ck : Nat → Nat} {L : Nat → Nat → Nat} {labels : Int} {gb lb : Nat} (hE : Env Wb b n r bk ck L labels gb lb) (hB : Below Wb.heap.size Wb w) {sb mk : Nat} {wv ov fv : Value} {come : Nat} {num0 low0 : Nat → Nat} {fs : List (List Nat × Value)}
    (h : Sr w Wb.heap.size sb mk (outF gb lb) wv ov fv n come num0 low0 [] [] fs) (T : Tj (edge L labels) n come num0 low0 [] [] (fs.map Prod.fst)) (v : Nat) (hv : v < n) (h0 : num0 v = 0) :
    Calls Tryd.prog 39 #[.pointer (some ⟨sb, 0, none⟩), .int .i64 v] w fun e w' => e = .returned (.tuple #[]) ∧ ∃ wv' ov' fv' come' num' low' fs', Wk Wb w' sb mk gb lb n (edge L labels) num0 v wv' ov' fv' come' num' low' [] [] fs' := by
  have hn := hE.graph.bound
  have HE := hid hE
  have EN := hid (enter_is hE hB h v hv (by have := T.come_lt hv h0; omega) (by simp) (by simp))
  have TE := hid (T.enter hv h0 (.inl rfl))
  have hhi := h.high
  clear hE hB h T
  go_enter Tryd.func39, Tryd.ntmps39
  go_wp2_with fail
  go_step3
  go_wp2_with fail
  go_at_call 58
  refine EN.out.mono ?_
  rintro e w1 ⟨rfl, ⟨rv, wv', ov', s1⟩, b1⟩
  have K1 : Hid (Wk Wb w1 sb mk gb lb n (edge L labels) num0 v wv' ov' fv (come + 1) (updN num0 v (come + 1)) (updN low0 v (come + 1)) [((v, lst (edge L labels v) n), rv)] [v] fs) := ⟨s1, TE.out, ⟨by rw [updN_self]; omega, fun x hx => upd_keeps hx (by omega)⟩, b1⟩
  clear s1 b1 EN TE
  go_wp2_with fail
  go_step3
  go_wp2_with fail
  go_loopg [4, 5] (todo n (updN num0 v (come + 1)) [(v, lst (edge L labels v) n)]) (fun g _ _ wr => ∃ wv ov fv come num low ws opn fs, todo n num (ws.map Prod.fst) ≤ g ∧ Aside (Wk Wb wr sb mk gb lb n (edge L labels) num0 v wv ov fv come num low ws opn fs))
  case atStart => exact ⟨_, _, _, _, _, _, _, _, _, Nat.le_refl _, K1.out⟩
  case round =>
    clear K1
    obtain ⟨wv2, ov2, fv2, come2, num2, low2, ws2, opn2, fs2, hg, KX⟩ := hrel
    obtain ⟨hw3, ho3, hf3⟩ := KX.out.bounds hn
    rcases List.eq_nil_or_concat ws2 with rfl | ⟨A, ⟨⟨u, rs⟩, rv2⟩, hA⟩
    · have hop : opn2 = [] := KX.out.tj.closed
      subst hop
      obtain ⟨c0, c1, c2, c3, c4, c5⟩ := KX.out.sr.cells
      obtain ⟨wa, wc, rfl, _⟩ := own_form KX.out.sr.wayR
      clear c0 c1 c2 c4 c5
      go_wp2_with fail
      unfold Exit.noGoto
      dsimp only
      go_end0
      exact ⟨rfl, _, _, _, _, _, _, _, KX.out⟩
    · rw [List.concat_eq_append] at hA
      subst hA
      obtain ⟨gw, cw, rfl, hcw, hcm, hgw, t0, t1, tf⟩ := KX.out.sr.top
      obtain ⟨c0, c1, c2, c3, c4, c5⟩ := KX.out.sr.cells
      clear c0 c1 c2 c4 c5
      rw [List.length_append, List.length_singleton] at hw3
      have hMi : (0 : Int) < (A.length : Int) + 1 := by omega
      have hMb : (A.length : Int) ≤ 300 := by omega
      have hM1 : ((A.length : Int) + 1 - 1) = A.length := by omega
      have hM0 : (0 : Int) ≤ (A.length : Int) := by omega
      obtain ⟨TT, hTT⟩ : ∃ TT, todo n num2 ((A ++ [((u, rs), rv2)]).map Prod.fst) = TT := ⟨_, rfl⟩
      have HTT := hid hTT
      rw [hTT] at hg
      clear hTT
      go_wp2_with fail
      go_quiet (fail)
      have KO : Hid (Wk Wb (wr.drewN nq) sb mk gb lb n (edge L labels) num0 v (.slice (some ⟨gw, 0, none⟩) (A.length + 1) cw) ov2 fv2 come2 num2 low2 (A ++ [((u, rs), rv2)]) opn2 fs2) := KX.out.later (below_drewN (Below.refl _ _) nq)
      clear KX c3 t0 t1 tf
      generalize wr.drewN nq = wo at *
      go_wp2_with fail
      go_loopg [5] TT (fun g2 _ wr => ∃ low rs rv, todo n num2 ((A ++ [((u, rs), rv)]).map Prod.fst) ≤ g2 ∧ todo n num2 ((A ++ [((u, rs), rv)]).map Prod.fst) ≤ TT ∧ Aside (Wk Wb wr sb mk gb lb n (edge L labels) num0 v (.slice (some ⟨gw, 0, none⟩) (A.length + 1) cw) ov2 fv2 come2 num2 low (A ++ [((u, rs), rv)]) opn2 fs2))
      case atStart => exact ⟨low2, rs, rv2, by rw [HTT.out]; exact Nat.le_refl _, by rw [HTT.out]; exact Nat.le_refl _, KO.out⟩
      case round =>
        clear KO HTT
        obtain ⟨low3, rs3, rv3, hg2, hT3, KI⟩ := hrel
        obtain ⟨t0, t1, tf⟩ := KI.out.sr.topAt
        have hr := KI.out.sr.rests ((u, rs3), rv3) (by simp)
        have hun : u < n := by have := KI.out.tj; rw [map_snoc] at this; exact this.topIn.2
        cases rs3 with
        | nil =>
          obtain ⟨ra, rc, hrv⟩ := hr.form
          have e0 : (natI ([] : List Nat)).length = 0 := rfl
          dsimp only at hrv
          rw [e0] at hrv
          subst hrv
          clear hr e0
          by_cases hl : low3 u < num2 u
          · have LV := hid (leave_stay KI.out.be KI.out.sr u hun hl hcw hcm)
            have HTL : todo n num2 (A.map Prod.fst) + 1 = todo n num2 ((A ++ [((u, []), Value.slice ra 0 rc)]).map Prod.fst) := by rw [map_snoc]; exact todo_leave n num2 u
            go_wp2_with fail
            go_at_call 60
            refine LV.out.mono ?_
            rintro e w5 ⟨rfl, s5, b5⟩
            have K5 := hid (KI.out.leave hl s5 b5)
            clear s5 b5 LV KI t0 t1 tf
            go_wp2_with fail
            go_roundg (todo n num2 (A.map Prod.fst))
            · exact ⟨_, _, _, _, _, _, _, _, _, Nat.le_refl _, K5.out⟩
            · omega
          · have htj := KI.out.tj
            rw [map_snoc] at htj
            obtain ⟨O1, O2, hO, hu1, hnd, hlt5⟩ := htj.split htj.topIn.1
            dsimp only at hO hu1 hnd hlt5
            obtain ⟨go5, cap5, hov⟩ := KI.out.sr.openForm (by rw [hO, List.length_append, List.length_cons]; omega)
            subst hO
            subst hov
            have LV := hid (leave_close KI.out.be u KI.out.sr hun hl hcw hcm hu1 hlt5 ho3 hf3)
            have HND := hid hnd
            clear htj hu1 hnd hlt5
            go_wp2_with fail
            go_at_call 60
            refine LV.out.mono ?_
            rintro e w5 ⟨rfl, ⟨cv, fv5, s5⟩, b5⟩
            obtain ⟨k5, td⟩ := KI.out.close hl HND.out s5 b5
            have K5 := hid k5
            clear s5 b5 LV KI t0 t1 tf k5
            go_wp2_with fail
            go_roundg (todo n (putN num2 (u :: O2) KK) (A.map Prod.fst))
            · exact ⟨_, _, _, _, _, _, _, _, _, Nat.le_refl _, K5.out⟩
            · omega
        | cons x t =>
          have hxn : x < n := by have := KI.out.tj; rw [map_snoc] at this; exact this.edgeIn
          rcases hr with ⟨_, hc0⟩ | ⟨gq, off, qc, cur, hq, hPg, hgg, hc1, hc2, hsz, hat⟩
          · cases hc0
          dsimp only at hq
          subst hq
          have e1 : (natI (x :: t)).length = t.length + 1 := by simp [natI]
          rw [e1] at hc1 hat t1
          have cx : wr.cell? ⟨gq, off, none⟩ = some (.int .i64 (x : Int)) := (Lib.cell_of_heap hgg off).trans (hat 0 (by omega))
          unfold maxLen at hc2
          have hqi : (qc : Int) ≤ 9223372036854775807 := by omega
          have hqc : (t.length : Int) + 1 ≤ qc := by omega
          have hl0 : (0 : Int) < (t.length : Int) + 1 := by omega
          have htl : (t.length : Int) ≤ 9223372036854775806 := by omega
          by_cases hk : num2 x = 0
          · have hll := KI.out.tj.knownGo hxn hk
            have KN := hid (known_no KI.out.sr x hxn hk hll)
            have hcm3 := KI.out.tj.come_lt hxn hk
            have EN := hid (enter_is HE.out KI.out.be KI.out.sr x hxn (by omega) (by rw [List.length_append, List.length_singleton]; exact hw3) ho3)
            have HK := hid hk
            have HC0 := hid hc1
            clear hll hcm3 hk hgg hat hc1
            go_wp2_with fail
            go_at_call 38
            refine KN.out.mono ?_
            rintro e w' ⟨rfl, rfl⟩
            go_wp2_with fail
            go_at_call 58
            refine EN.out.mono ?_
            rintro e w5 ⟨rfl, ⟨rv5, wv5, ov5, s5⟩, b5⟩
            obtain ⟨k5, td⟩ := KI.out.enter HK.out rfl s5 b5
            have K5 := hid k5
            clear s5 b5 EN KN KI t0 t1 tf k5 cx
            go_wp2_with fail
            go_roundg (todo n (updN num2 x (come2 + 1)) ((A ++ [((u, x :: t), Value.slice (some ⟨gq, off, none⟩) (natI (x :: t)).length qc)] ++ [((x, lst (edge L labels x) n), rv5)]).map Prod.fst))
            · exact ⟨_, _, _, _, _, _, _, _, _, Nat.le_refl _, K5.out⟩
            · omega
          · have KN := hid (known_yes KI.out.sr x hxn hk)
            have HAT := hid hat
            have HGG := hid hgg
            have HPG := hid hPg
            have HC0 := hid hc1
            have HSZ := hid hsz
            have hat' : Hid (∀ j, j < t.length → cur[off + 1 + j]? = some (.int .i64 ((natI t).getD j 0))) := fun j hj => by
              have := hat (j + 1) (by omega)
              rw [show off + (j + 1) = off + 1 + j from by omega] at this
              simpa [natI] using this
            have e2 : Hid ((natI t).length = t.length) := by show (natI t).length = t.length; simp [natI]
            clear hat hgg hPg
            by_cases h1 : qc = 1
            · subst h1
              have htz : t = [] := List.length_eq_zero_iff.1 (by omega)
              subst htz
              have PN : Hid (Part (OffB Wb.heap.size ov2) wr (.slice (some ⟨gq, off, none⟩) 0 0) (natI [])) := .inr ⟨gq, off, 0, cur, rfl, HPG.out, HGG.out, Nat.le_refl _, by unfold maxLen; omega, by have := HSZ.out; omega, fun j hj => by cases hj⟩
              have S5 := hid (KI.out.sr.setRest PN.out)
              have B5 : Hid (Below Wb.heap.size Wb (wr.setCell ⟨gw, A.length * 2 + 1, none⟩ (.slice (some ⟨gq, off, none⟩) 0 0))) := KI.out.be.setCell hgw _
              obtain ⟨t5, _, _⟩ := S5.out.topAt
              have LW := hid (lower_is S5.out u x hun hxn B5.out.size)
              clear hc1 hsz
              go_wp2_with fail
              go_at_call 38
              refine KN.out.mono ?_
              rintro e w' ⟨rfl, rfl⟩
              go_wp2_with fail
              go_at_call 59
              refine LW.out.mono ?_
              rintro e w6 ⟨rfl, s6, b6⟩
              obtain ⟨k6, td⟩ := KI.out.lower hk s6 (B5.out.trans b6)
              have K6 := hid k6
              clear s6 b6 LW KN KI t0 t1 tf k6 cx t5 S5 B5
              go_wp2_with fail
              go_roundg (todo n num2 ((A ++ [((u, []), Value.slice (some ⟨gq, off, none⟩) 0 0)]).map Prod.fst))
              · exact ⟨_, _, _, Nat.le_refl _, by omega, K6.out⟩
              · omega
            · have PN : Hid (Part (OffB Wb.heap.size ov2) wr (.slice (some ⟨gq, off + 1, none⟩) t.length (qc - 1)) (natI t)) := .inr ⟨gq, off + 1, qc - 1, cur, by rw [e2.out], HPG.out, HGG.out, by rw [e2.out]; omega, by unfold maxLen; omega, by have := HSZ.out; omega, fun j hj => by rw [e2.out] at hj; exact hat'.out j hj⟩
              have S5 := hid (KI.out.sr.setRest PN.out)
              have B5 : Hid (Below Wb.heap.size Wb (wr.setCell ⟨gw, A.length * 2 + 1, none⟩ (.slice (some ⟨gq, off + 1, none⟩) t.length (qc - 1)))) := KI.out.be.setCell hgw _
              obtain ⟨t5, _, _⟩ := S5.out.topAt
              have LW := hid (lower_is S5.out u x hun hxn B5.out.size)
              clear hc1 hsz
              go_wp2_with fail
              go_at_call 38
              refine KN.out.mono ?_
              rintro e w' ⟨rfl, rfl⟩
              go_wp2_with fail
              go_at_call 59
              refine LW.out.mono ?_
              rintro e w6 ⟨rfl, s6, b6⟩
              obtain ⟨k6, td⟩ := KI.out.lower hk s6 (B5.out.trans b6)
              have K6 := hid k6
              clear s6 b6 LW KN KI t0 t1 tf k6 cx t5 S5 B5
              go_wp2_with fail
              go_roundg (todo n num2 ((A ++ [((u, t), Value.slice (some ⟨gq, off + 1, none⟩) t.length (qc - 1))]).map Prod.fst))
              · exact ⟨_, _, _, Nat.le_refl _, by omega, K6.out⟩
              · omega
end Go.Proofs.YtjgmkigfpjmlaabDoor
