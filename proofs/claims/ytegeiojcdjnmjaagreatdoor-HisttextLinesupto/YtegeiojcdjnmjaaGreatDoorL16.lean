/-
  The code's parser of a history's text: an event.
-/
import Derived.Test.YtegeiojcdjnmjaaGreatDoorL15
namespace Go.Proofs.YtegeiojcdjnmjaaGreatDoor
set_option linter.unusedVariables false
set_option linter.unusedSimpArgs false
open Go.RowKit

/-- An event as a value. -/
def EvV (S : Nat → Prop) (w : World) (v : Value) (e : MEv) : Prop := ∃ ov, v = .agg #[.int .i64 e.kind, .int .i64 e.proc, ov] ∧ OpsIn S w ov e.ops
def pE0 (en : Int) (p : Ps MEv) : Ps MEv := andP p fun e l4 => andP (pEnd en l4) fun _ l5 => .ok (e, l5)
def pE2 (k p : Int) (q : Ps (List MOp)) : Ps MEv := andP q fun os l4 => .ok ((k, p, os), l4)
def pE1 (en k p : Int) (l : List MTok) : Ps MEv := andP (pOp en l) fun o l3 => pE2 k p (pOps en 10 l3 [o])
theorem pEv_0 (en : Int) (l : List MTok) : pEv en l = pE0 en (andP (pKind en l 0 pEvWords) fun k l1 => pEvB en k l1) := rfl
theorem pEvB_1 (en k : Int) (l : List MTok) : pEvB en k l = andP (pProc en l) fun p l2 => pE1 en k p l2 := rfl
theorem pE0_err {en : Int} {q : Ps MEv} {f : Int × Int} (h : q = .error f) : pE0 en q = .error f := and_err h
theorem pE2_err {k p : Int} {q : Ps (List MOp)} {f : Int × Int} (h : q = .error f) : pE2 k p q = .error f := and_err h
theorem pOps_end {en : Int} {f : Nat} {l : List MTok} {os : List MOp} (h : seesP l 3 ⟨#[91]⟩ = false) : pOps en (f + 1) l os = .ok (os, l) := by
  unfold pOps; rw [h]; rfl
theorem pOps_full {en : Int} {f : Nat} {l : List MTok} {os : List MOp} (h : seesP l 3 ⟨#[91]⟩ = true) (h8 : os.length = 8) : pOps en (f + 1) l os = .error (nextAt en l, 4) := by
  unfold pOps; rw [h, if_pos rfl, if_pos h8]; rfl
theorem pOps_more {en : Int} {f : Nat} {l : List MTok} {os : List MOp} (h : seesP l 3 ⟨#[91]⟩ = true) (h8 : ¬ os.length = 8) : pOps en (f + 1) l os = andP (pOp en l) fun o l1 => pOps en f l1 (os ++ [o]) := by
  show (if seesP l 3 ⟨#[91]⟩ then (if os.length = 8 then pFail en 4 l else andP (pOp en l) fun o l1 => pOps en f l1 (os ++ [o])) else .ok (os, l)) = _
  rw [if_pos h, if_neg h8]
theorem pEnd_ok {en : Int} {T : List MTok} {m : Nat} (h : m < T.length → (lookT en T m).1 = 4) : pEnd en (T.drop m) = .ok ((), T.drop m) := by
  by_cases hn : m < T.length
  · have hd : T.drop m = lookT en T m :: T.drop (m + 1) := by
      rw [look_in hn, List.drop_eq_getElem_cons hn]; simp [List.getD, hn]
    rw [hd]; exact if_pos (h hn)
  · rw [List.drop_eq_nil_of_le (by omega)]; rfl
theorem pEnd_not {en : Int} {T : List MTok} {m : Nat} (hn : m < T.length) (h : ¬ (lookT en T m).1 = 4) : pEnd en (T.drop m) = .error (nextAt en (T.drop m), 20) := by
  have hd : T.drop m = lookT en T m :: T.drop (m + 1) := by
    rw [look_in hn, List.drop_eq_getElem_cons hn]; simp [List.getD, hn]
  rw [hd]; exact if_neg h
theorem PB.tokens {bx n : Nat} {en : Int} {T : List MTok} {w : World} (h : PB bx en T n w) : ∃ ao c, w.cell? ⟨bx, 0, none⟩ = some (.slice ao T.length c) := by
  obtain ⟨v, h0, ao, c, rfl, _⟩ := h.left
  exact ⟨ao, c, h0⟩
theorem pKind_fiveE {en : Int} {l l2 : List MTok} {k : Int} (h : pKind en l 0 pEvWords = .ok (k, l2)) : True := trivial
set_option maxHeartbeats 8000000 in
set_option maxRecDepth 100000 in
theorem event_is (bx n : Nat) (en : Int) (T : List MTok) (w : World) (h : PB bx en T n w) :
    Calls Tryz.prog 41 #[.pointer (some ⟨bx, 0, none⟩)] w (ToldR bx en T w (fun x v w' => EvV (fun b => w.heap.size ≤ b) w' v x) (pEv en (T.drop n))) := by
  have hlt := h.lt
  have A0 := hid (ec_new w 0 0 (.slice none 0 0))
  have P0 := hid (fun o => h.keep ((below_box w o).mono h.lt))
  clear h
  go_enter Tryz.func41, Tryz.ntmps41
  go_wp2_with fail
  go_at_call 26
  refine (evWords_is _).mono ?_
  rintro e w2 ⟨rfl, b2⟩
  have A2 := hid (A0.out.beside (Beside.of_below (bx := bx) (b2.mono (Nat.le_refl _))) (by omega))
  have B2 : Hid (Beside bx w w2) := (Beside.of_below (below_box w _)).trans (Beside.of_below b2)
  have P2 := hid ((P0.out _).keep (b2.mono (P0.out _).lt))
  clear b2 A0 P0
  go_wp2_with fail
  go_at_call 63
  refine (kind_is bx n en T _ _ _ _ _ _ P2.out).mono ?_
  rintro e w3 h3'
  have h3 : Told bx en T w2 (fun x => .int .i64 x) (pKind en (T.drop n) 0 pEvWords) e w3 := h3'
  clear h3'
  cases hp3 : pKind en (T.drop n) 0 pEvWords with
  | error f =>
    rw [hp3] at h3
    obtain ⟨rfl, b3⟩ := h3
    refine ⟨rfl, ?_⟩
    show ToldR bx en T w _ (pEv en (T.drop n)) _ _
    rw [pEv_0, pE0_err (and_err hp3)]
    exact ⟨rfl, B2.out.trans b3⟩
  | ok z =>
    obtain ⟨k, l2⟩ := z
    rw [hp3] at h3
    obtain ⟨⟨m3, hm3, P3⟩, rfl, b3⟩ := h3
    have hm3' : l2 = T.drop m3 := hm3
    subst hm3'
    have HE3 : Hid (pEv en (T.drop n) = pE0 en (pEvB en k (T.drop m3))) := by show _ = _; rw [pEv_0, and_ok hp3]
    have A3 := hid (A2.out.beside b3 (by omega))
    have B3 : Hid (Beside bx w w3) := B2.out.trans b3
    have P3H := hid P3
    clear P3 b3 hm3 hp3 A2 B2 P2
    have hs3 : w.heap.size < w3.heap.size := A3.out.lt
    have hb3 : bx < w3.heap.size := P3H.out.lt
    have N0 := hid (ec_new w3 k 0 (.slice none 0 0))
    go_wp2_with fail
    go_at_call 64
    refine (process_is bx m3 en T _ (P3H.out.keep ((below_box w3 _).mono hb3))).mono ?_
    rintro e w4 h4
    cases hp4 : pProc en (T.drop m3) with
    | error f =>
      rw [hp4] at h4
      obtain ⟨rfl, b4⟩ := h4
      refine ⟨rfl, ?_⟩
      show ToldR bx en T w _ (pEv en (T.drop n)) _ _
      rw [HE3.out, pEvB_1, pE0_err (and_err hp4)]
      exact ⟨rfl, B3.out.trans ((Beside.of_below (below_box w3 _)).trans b4)⟩
    | ok z =>
      obtain ⟨p, l3⟩ := z
      rw [hp4] at h4
      obtain ⟨⟨m4, hm4, P4⟩, rfl, b4⟩ := h4
      have hm4' : l3 = T.drop m4 := hm4
      subst hm4'
      have HE4 : Hid (pEv en (T.drop n) = pE0 en (pE1 en k p (T.drop m4))) := by show _ = _; rw [HE3.out, pEvB_1, and_ok hp4]
      have O4 := hid (N0.out.beside b4 (by omega))
      have A4 := hid ((A3.out.beside (Beside.of_below (bx := bx) (below_box w3 _)) (by omega)).beside b4 (by omega))
      have B4 : Hid (Beside bx w w4) := B3.out.trans ((Beside.of_below (below_box w3 _)).trans b4)
      have P4H := hid P4
      clear P4 b4 hm4 hp4 A3 B3 P3H HE3 N0
      have hs4 : w3.heap.size < w4.heap.size := O4.out.lt
      obtain ⟨W, hW⟩ : ∃ W, w4.setCell ⟨w3.heap.size, 1, none⟩ (.int .i64 p) = W := ⟨_, rfl⟩
      obtain ⟨eb, heb⟩ : ∃ eb, eb = w3.heap.size := ⟨_, rfl⟩
      obtain ⟨ab, hab⟩ : ∃ ab, ab = w.heap.size := ⟨_, rfl⟩
      have q1 := O4.out.c1
      have y1 := O4.out.z1
      have ES0 : Hid (ES bx ab eb (eb + 1) en T w k p m4 [] W (.slice none 0 0) []) := by
        rw [← hW, heb, hab]
        exact ⟨P4H.out.set (g := w3.heap.size) (i := 1) hb3 _, O4.out.set1 p, A4.out.other (g := w3.heap.size) (i := 1) (by omega) _, B4.out.setNew (p := ⟨w3.heap.size, 1, none⟩) (by simp; omega) _, OutInv.nil _ _ _ _ _, by simp [World.setCell]; omega⟩
      have nE1 : eb ≠ bx := by omega
      have nE2 : eb < eb + 1 := by omega
      have nA1 : ab ≠ bx := by omega
      have nA2 : ab < eb + 1 := by omega
      have nEA : eb ≠ ab := by omega
      have nXE : bx < eb := by omega
      have nWE : w.heap.size ≤ eb := by omega
      have nWB : ∀ b, b < w.heap.size → b < eb + 1 := fun b hb => by omega
      have nBB : bx < eb + 1 := by omega
      have nWab : ab = w.heap.size := hab
      clear O4 A4 B4 P4H
      go_wp2_with fail
      clear q1 y1
      try rw [← heb] at *
      clear hW
      have hWs : w.heap.size ≤ eb := nWE
      obtain ⟨B, hBe⟩ : ∃ B, B = eb + 1 := ⟨_, rfl⟩
      rw [← hBe] at ES0 nE2 nA2 nBB
      replace nWB : ∀ b, b < w.heap.size → b < B := fun b hb => by omega
      obtain ⟨os, hos⟩ : ∃ os : List MOp, os = [] := ⟨_, rfl⟩
      obtain ⟨rows, hrows⟩ : ∃ rows : List (List Value), rows = [] := ⟨_, rfl⟩
      obtain ⟨ta, hta⟩ : ∃ ta : Option Addr, ta = none := ⟨_, rfl⟩
      obtain ⟨tc, htc⟩ : ∃ tc : Nat, tc = 0 := ⟨_, rfl⟩
      obtain ⟨m, hm⟩ : ∃ m : Nat, m = m4 := ⟨_, rfl⟩
      have hos8 : os.length = 0 := by rw [hos]; rfl
      have ES1 : Hid (ES bx ab eb B en T w k p m os W (.slice ta os.length tc) rows) := by show ES _ _ _ _ _ _ _ _ _ _ _ _ _ _; rw [hos, hrows, hta, htc, hm]; exact ES0.out
      clear ES0
      have ES0 := ES1
      clear ES1
      have HB1 : Hid (B ≤ W.heap.size) := ES0.out.size
      have OUT := hid ES0.out.out
      have OUTB : Hid (∀ V, Beside bx W V → OutInv 74 6 OpRow B V (.slice ta os.length tc) os.length rows os) := fun V hb => ES0.out.out.beside (fun _ _ _ _ _ _ h => h.keep) hb nBB
      have x2 := ES0.out.ec.c2
      have EL := hid ES0.out.ec.lt
      have PBD : Hid (PB bx en T m W.drew) := ES0.out.pb.keep (below_drew1 (Below.refl _ _))
      cases hpo : pOp en (T.drop m) with
      | error f =>
        have OPC : Hid (∀ V, PB bx en T m V → Calls Tryz.prog 65 #[.pointer (some ⟨bx, 0, none⟩)] V fun e w' => e = gaveUp f.1 f.2 ∧ Beside bx V w') := fun V hV => (op_is bx m en T V hV).mono fun e w' hh => by rw [hpo] at hh; exact hh
        refine wp_region_gen Tryz.mixedOrders (by kernel_rfl) (fun val => { tmps := #[_, _, _, _, _, _, _, _, _, _, _, val 0, val 1, val 2, val 3, val 4, val 5, val 6, _, _, _, _, _, _, _, _, _, _, _, _, _, _, _, _, _, _, _, _, _, _, _, _, _, _, _, _, _, _, _, _, _, _], defers := [] }) (fun i => match i with | 0 => undef | 1 => undef | 2 => undef | 3 => undef | 4 => undef | 5 => undef | 6 => undef | 7 => undef | _ => undef) rfl (fun L V => Beside bx W V ∧ PB bx en T m V) (fun L i y V => match i with | 0 => y = .pointer (some ⟨eb, 2, none⟩) | 1 => y = .slice ta os.length tc | 2 => y = .pointer (some ⟨bx, 0, none⟩) | 3 => False | 4 => False | 5 => False | 6 => y = .pointer (some ⟨eb, 2, none⟩) | 7 => True | _ => True) ⟨be_drew (Beside.refl bx W), PBD.out⟩ _ rfl ⟨?_, ?_, ?_, ?_, ?_, ?_, ?_, ?_, trivial⟩ ?_
        · refine gen_plain rfl (fun _ _ => rfl) (fun L val V hc hi hu hg hd => ?_)
          refine gdoes_value (v := .pointer (some ⟨eb, 2, none⟩)) ?_ rfl hg (fun j u hj hr => hr)
          simp [execOp, Act.eval, go_sem]
        · refine gen_plain rfl (fun _ _ => rfl) (fun L val V hc hi hu hg hd => ?_)
          have h0 : val 0 = .pointer (some ⟨eb, 2, none⟩) := depsG_get hd 0 (by kernel_rfl)
          have e2 : V.cell? ⟨eb, 2, none⟩ = some (.slice ta os.length tc) := (hg.1.cell (p := ⟨eb, 2, none⟩) EL.out nE1).trans x2
          refine gdoes_value (v := .slice ta os.length tc) ?_ rfl hg (fun j u hj hr => hr)
          simp [execOp, Act.eval, go_sem, h0, e2]
        · refine gen_plain rfl (fun _ _ => rfl) (fun L val V hc hi hu hg hd => ?_)
          refine gdoes_value (v := .pointer (some ⟨bx, 0, none⟩)) ?_ rfl hg (fun j u hj hr => hr)
          simp [execOp, Act.eval, go_sem]
        · refine gen_plain rfl (fun _ _ => rfl) (fun L val V hc hi hu hg hd => ?_)
          have h2 : val 2 = .pointer (some ⟨bx, 0, none⟩) := depsG_get hd 2 (by kernel_rfl)
          refine gdoes_gone (f := 65) (args := #[.pointer (some ⟨bx, 0, none⟩)]) ?_ (OPC.out V hg.2) ?_
          · simp [execOp, Act.eval, go_sem, resolve, invoke, h2]
          · rintro e w' ⟨rfl, hb3⟩
            refine ⟨_, rfl, rfl, ?_⟩
            show ToldR bx en T w _ (pEv en (T.drop n)) _ _
            have he : pEv en (T.drop n) = .error f := by rw [HE4.out, ← hm]; exact pE0_err (and_err hpo)
            rw [he]
            exact ⟨rfl, (ES0.out.be.trans hg.1).trans hb3⟩
        · refine gen_plain rfl (fun _ _ => rfl) (fun L val V hc hi hu hg hd => ?_)
          exact (depsG_get hd 3 (by kernel_rfl) : False).elim
        · refine gen_plain rfl (fun _ _ => rfl) (fun L val V hc hi hu hg hd => ?_)
          exact (depsG_get hd 4 (by kernel_rfl) : False).elim
        · refine gen_plain rfl (fun _ _ => rfl) (fun L val V hc hi hu hg hd => ?_)
          refine gdoes_value (v := .pointer (some ⟨eb, 2, none⟩)) ?_ rfl hg (fun j u hj hr => hr)
          simp [execOp, Act.eval, go_sem]
        · refine gen_plain rfl (fun _ _ => rfl) (fun L val V hc hi hu hg hd => ?_)
          exact (depsG_get hd 5 (by kernel_rfl) : False).elim
        intro L val V hL hg hR
        exact ((hR 3 (by decide) : False)).elim
      | ok z =>
        obtain ⟨o, l2⟩ := z
        have OPC : Hid (∀ V, PB bx en T m V → Calls Tryz.prog 65 #[.pointer (some ⟨bx, 0, none⟩)] V fun e w' => (∃ m', l2 = T.drop m' ∧ PB bx en T m' w') ∧ (∃ v, e = .returned v ∧ OpV (fun b => V.heap.size ≤ b) w' v o) ∧ Beside bx V w') := fun V hV => (op_is bx m en T V hV).mono fun e w' hh => by rw [hpo] at hh; exact hh
        refine wp_region_gen Tryz.mixedOrders (by kernel_rfl) (fun val => { tmps := #[_, _, _, _, _, _, _, _, _, _, _, val 0, val 1, val 2, val 3, val 4, val 5, val 6, _, _, _, _, _, _, _, _, _, _, _, _, _, _, _, _, _, _, _, _, _, _, _, _, _, _, _, _, _, _, _, _, _, _], defers := [] }) (fun i => match i with | 0 => undef | 1 => undef | 2 => undef | 3 => undef | 4 => undef | 5 => undef | 6 => undef | 7 => undef | _ => undef) rfl (fun L V => (L 5 = false → Beside bx W V) ∧ (L 3 = false → PB bx en T m V) ∧ (L 3 = true → ∃ m2, l2 = T.drop m2 ∧ PB bx en T m2 V) ∧ (L 7 = true → ∃ m2 ya yc rows2, l2 = T.drop m2 ∧ ES bx ab eb B en T w k p m2 (os ++ [o]) V (.slice ya (os ++ [o]).length yc) rows2)) (fun L i y V => match i with | 0 => y = .pointer (some ⟨eb, 2, none⟩) | 1 => y = .slice ta os.length tc | 2 => y = .pointer (some ⟨bx, 0, none⟩) | 3 => ∃ la lc, y = .agg #[.int .i64 o.kind, .string o.key, .int .i64 o.value, .slice la o.list.length lc, .bool o.has, .bool o.nl] ∧ (L 5 = false → IntsIn (fun b => W.heap.size ≤ b) V (.slice la o.list.length lc) o.list) | 4 => L 5 = false → ∃ nb la lc, W.heap.size ≤ nb ∧ y = .slice (some ⟨nb, 0, none⟩) 1 1 ∧ V.heap[nb]? = some (.cells #[.int .i64 o.kind, .string o.key, .int .i64 o.value, .slice la o.list.length lc, .bool o.has, .bool o.nl] 74) ∧ IntsIn (fun b => W.heap.size ≤ b) V (.slice la o.list.length lc) o.list | 5 => L 7 = false → AppO bx B W V os o y | 6 => y = .pointer (some ⟨eb, 2, none⟩) | 7 => True | _ => True) ⟨fun _ => be_drew (Beside.refl bx W), fun _ => PBD.out, fun c => (by cases c), fun c => (by cases c)⟩ _ rfl ⟨?_, ?_, ?_, ?_, ?_, ?_, ?_, ?_, trivial⟩ ?_
        · refine gen_plain rfl (fun _ _ => rfl) (fun L val V hc hi hu hg hd => ?_)
          refine gdoes_value (v := .pointer (some ⟨eb, 2, none⟩)) ?_ rfl hg (fun j u hj hr => hr)
          simp [execOp, Act.eval, go_sem]
        · refine gen_plain rfl (fun _ _ => rfl) (fun L val V hc hi hu hg hd => ?_)
          have h0 : val 0 = .pointer (some ⟨eb, 2, none⟩) := depsG_get hd 0 (by kernel_rfl)
          have h5 : L 5 = false := wants_back hc 10 5 1 (by kernel_rfl) hi
          have e2 : V.cell? ⟨eb, 2, none⟩ = some (.slice ta os.length tc) := ((hg.1 h5).cell (p := ⟨eb, 2, none⟩) EL.out nE1).trans x2
          refine gdoes_value (v := .slice ta os.length tc) ?_ rfl hg (fun j u hj hr => hr)
          simp [execOp, Act.eval, go_sem, h0, e2]
        · refine gen_plain rfl (fun _ _ => rfl) (fun L val V hc hi hu hg hd => ?_)
          refine gdoes_value (v := .pointer (some ⟨bx, 0, none⟩)) ?_ rfl hg (fun j u hj hr => hr)
          simp [execOp, Act.eval, go_sem]
        · refine gen_plain rfl (fun _ _ => rfl) (fun L val V hc hi hu hg hd => ?_)
          have h2 : val 2 = .pointer (some ⟨bx, 0, none⟩) := depsG_get hd 2 (by kernel_rfl)
          have h5 : L 5 = false := wants_back hc 10 5 3 (by kernel_rfl) hi
          have h7 : L 7 = false := wants_back hc 10 7 3 (by kernel_rfl) hi
          have hbW := hg.1 h5
          refine gdoes_call (f := 65) (args := #[.pointer (some ⟨bx, 0, none⟩)]) ?_ (OPC.out V (hg.2.1 hi)) ?_
          · simp [execOp, Act.eval, go_sem, resolve, invoke, h2]
          · rintro e w' ⟨⟨m2, q1, q2⟩, ⟨v, rfl, ho⟩, hb3⟩
            obtain ⟨lv, rfl, hi2⟩ := ho
            obtain ⟨la, lc, rfl, hi3⟩ := id hi2
            refine ⟨_, rfl, ⟨la, lc, rfl, fun _ => hi2.keep (fun _ _ _ => rfl) (fun b _ hb => Nat.le_trans hbW.size hb)⟩, ⟨fun _ => hbW.trans hb3, fun c => (by rw [upB_self] at c; cases c), fun _ => ⟨m2, q1, q2⟩, fun c => (by rw [show upB L 3 7 = L 7 from rfl, h7] at c; cases c)⟩, ?_⟩
            intro j u hj hr
            match j, hj, hr with
            | 0, _, hr => exact hr
            | 1, _, hr => exact hr
            | 2, _, hr => exact hr
            | 3, hj, hr => rw [hi] at hj; cases hj
            | 4, hj, hr => rw [wants_back hc 10 4 3 (by kernel_rfl) hi] at hj; cases hj
            | 5, hj, hr => rw [h5] at hj; cases hj
            | 6, _, hr => exact hr
            | 7, _, hr => trivial
            | _ + 8, _, hr => trivial
        · refine gen_plain rfl (fun _ _ => rfl) (fun L val V hc hi hu hg hd => ?_)
          obtain ⟨la, lc, h3, ho⟩ := depsG_get hd 3 (by kernel_rfl)
          have o3 := depsG_on hd 3 (by kernel_rfl)
          have h5 : L 5 = false := wants_back hc 10 5 4 (by kernel_rfl) hi
          have h7 : L 7 = false := wants_back hc 10 7 4 (by kernel_rfl) hi
          have hbW := hg.1 h5
          have hbv : Below V.heap.size V (V.alloc (.cells #[.int .i64 o.kind, .string o.key, .int .i64 o.value, .slice la o.list.length lc, .bool o.has, .bool o.nl] 74)) := below_box V _
          refine gdoes_turn (v := .slice (some ⟨V.heap.size, 0, none⟩) 1 1) (w' := V.alloc (.cells #[.int .i64 o.kind, .string o.key, .int .i64 o.value, .slice la o.list.length lc, .bool o.has, .bool o.nl] 74)) ?_ (fun _ => ⟨V.heap.size, la, lc, hbW.size, rfl, heap_alloc_new V _, (ho h5).keep (keeps_below hbv) (fun _ _ h => h)⟩) ⟨fun _ => hbW.trans (Beside.of_below hbv), fun c => (by rw [show upB L 4 3 = L 3 from rfl, o3] at c; cases c), fun _ => (hg.2.2.1 o3).imp fun m2 q => ⟨q.1, q.2.keep (hbv.mono q.2.lt)⟩, fun c => (by rw [show upB L 4 7 = L 7 from rfl, h7] at c; cases c)⟩ ?_
          · simp [execOp, Act.eval, go_sem, h3]
          · intro j u hj hr
            match j, hj, hr with
            | 0, _, hr => exact hr
            | 1, _, hr => exact hr
            | 2, _, hr => exact hr
            | 3, hj, hr => exact hr.imp fun la hr => hr.imp fun lc hr => ⟨hr.1, fun c => (hr.2 h5).keep (keeps_below hbv) (fun _ _ h => h)⟩
            | 4, hj, hr => rw [hi] at hj; cases hj
            | 5, hj, hr => rw [h5] at hj; cases hj
            | 6, _, hr => exact hr
            | 7, _, hr => trivial
            | _ + 8, _, hr => trivial
        · refine gen_plain rfl (fun _ _ => rfl) (fun L val V hc hi hu hg hd => ?_)
          have h1 : val 1 = .slice ta os.length tc := depsG_get hd 1 (by kernel_rfl)
          obtain ⟨nb, la, lc, q1, q2, q3, q4⟩ := depsG_get hd 4 (by kernel_rfl) hi
          have o4 := depsG_on hd 4 (by kernel_rfl)
          have o3 := wants_done hc 10 4 3 (by kernel_rfl) o4
          have h7 : L 7 = false := wants_back hc 10 7 5 (by kernel_rfl) hi
          have hbW := hg.1 hi
          intro K hK
          refine wp_appendO B V _ _ rfl (.slice ta os.length tc) os.length rows.flatten o.kind o.key o.value la o.list.length lc o.has o.nl (show val 1 = _ from h1) nb (show val 4 = _ from q2) q3 (OUTB.out V hbW).own (Nat.le_trans HB1.out hbW.size) (by omega) (fun g cap V' ho hgr hat => ?_)
          have hown : ∀ b, b < B → (Value.slice ta os.length tc).ownBlock ≠ some b := fun b hb c => by have := (OUT.out.own.lt b c).1; omega
          have hbb : Below B V V' := (Below.refl B V).grown hgr (Nat.le_trans HB1.out hbW.size) (fun b c => (OUT.out.own.lt b c).1)
          refine hK _ V' (fun _ => ⟨_, OUT.out.grow (fun _ _ _ _ _ _ h => h.keep) HB1.out nBB hbW (row := [.int .i64 o.kind, .string o.key, .int .i64 o.value, .slice la o.list.length lc, .bool o.has, .bool o.nl]) (x := o) ⟨_, rfl, q4⟩ rfl ho hgr hat, hbb.os.trans hbW.os, hbb.tape.trans hbW.tape, hbb.output.trans hbW.output, Nat.le_trans hbW.size hbb.size, fun b hb hn => (hbb.block b hb).trans (hbW.block b (Nat.lt_of_lt_of_le hb HB1.out) hn)⟩) ⟨fun c => (by rw [upB_self] at c; cases c), fun c => (by rw [show upB L 5 3 = L 3 from rfl, o3] at c; cases c), fun _ => (hg.2.2.1 o3).imp fun m2 q => ⟨q.1, q.2.keep (hbb.mono nBB)⟩, fun c => (by rw [show upB L 5 7 = L 7 from rfl, h7] at c; cases c)⟩ ?_
          intro j u hj hr
          match j, hj, hr with
          | 0, _, hr => exact hr
          | 1, _, hr => exact hr
          | 2, _, hr => exact hr
          | 3, hj, hr => exact hr.imp fun la hr => hr.imp fun lc hr => ⟨hr.1, fun c => (by rw [upB_self] at c; cases c)⟩
          | 4, hj, hr => exact fun c => (by rw [upB_self] at c; cases c)
          | 5, hj, hr => rw [hi] at hj; cases hj
          | 6, _, hr => exact hr
          | 7, _, hr => trivial
          | _ + 8, _, hr => trivial
        · refine gen_plain rfl (fun _ _ => rfl) (fun L val V hc hi hu hg hd => ?_)
          refine gdoes_value (v := .pointer (some ⟨eb, 2, none⟩)) ?_ rfl hg (fun j u hj hr => hr)
          simp [execOp, Act.eval, go_sem]
        · refine gen_plain rfl (fun _ _ => rfl) (fun L val V hc hi hu hg hd => ?_)
          have h6 : val 6 = .pointer (some ⟨eb, 2, none⟩) := depsG_get hd 6 (by kernel_rfl)
          have o5 := depsG_on hd 5 (by kernel_rfl)
          have o3 := wants_done hc 10 5 3 (by kernel_rfl) o5
          have hA := depsG_get hd 5 (by kernel_rfl) hi
          obtain ⟨ya, yc, hy⟩ := hA.choose_spec.1.sliceV
          obtain ⟨m2, p1, p2⟩ := hg.2.2.1 o3
          rw [hy] at hA
          have nb := hA.choose_spec.2
          have ep := nb.block eb nE2 nE1
          have e0 : V.cell? ⟨eb, 2, none⟩ = some (.slice ta os.length tc) := (World.cell?_of_block (w := W) ep).trans x2
          have e1 : V.frozen? ⟨eb, 2, none⟩ = false := (show V.frozen? ⟨eb, 2, none⟩ = W.frozen? ⟨eb, 2, none⟩ by unfold World.frozen?; rw [ep]).trans ES0.out.ec.z2
          obtain ⟨rows2, es⟩ := ES0.out.final hA p2 nA2 nE2 nA1 nE1 nEA nXE nWE nWB
          refine gdoes_skip (w' := V.setCell ⟨eb, 2, none⟩ (.slice ya (os.length + 1) yc)) ?_ trivial ⟨fun c => (by rw [show upB L 7 5 = L 5 from rfl, o5] at c; cases c), fun c => (by rw [show upB L 7 3 = L 3 from rfl, o3] at c; cases c), fun _ => ⟨m2, p1, p2.set nXE _⟩, fun _ => ⟨m2, ya, yc, rows2, p1, es⟩⟩ ?_
          · simp [execOp, Act.eval, go_sem, h6, hy, e0, e1]
          · intro j u hj hr
            match j, hj, hr with
            | 0, _, hr => exact hr
            | 1, _, hr => exact hr
            | 2, _, hr => exact hr
            | 3, hj, hr => exact hr.imp fun la hr => hr.imp fun lc hr => ⟨hr.1, fun c => (by rw [show upB L 7 5 = L 5 from rfl, o5] at c; cases c)⟩
            | 4, hj, hr => exact fun c => (by rw [show upB L 7 5 = L 5 from rfl, o5] at c; cases c)
            | 5, hj, hr => exact fun c => (by rw [upB_self] at c; cases c)
            | 6, _, hr => exact hr
            | 7, hj, hr => trivial
            | _ + 8, _, hr => trivial
        intro L val V hL hg hR
        obtain ⟨m5, ya, yc, rows5, hm5, ES5⟩ := hg.2.2.2 (hL 7 (by decide))
        subst hm5
        have HE5 : Hid (pEv en (T.drop n) = pE0 en (pE2 k p (pOps en 10 (T.drop m5) (os ++ [o])))) := by show _ = _; rw [HE4.out, ← hm]; unfold pE1; rw [and_ok hpo, hos]; rfl
        have E5H := hid ES5
        have hlen5 : Hid ((os ++ [o]).length = 1) := by show _ = _; rw [hos]; rfl
        clear hg hR hL ES5 OPC x2 EL PBD OUTB OUT HB1 ES0 hpo HE4 hos8
        go_wp2_with fail
        go_loopg [19] 9 (fun gm _ wr => ∃ (m6 : Nat) (os6 : List MOp) (ya6 : Option Addr) (yc6 : Nat) (rows6 : List (List Value)), 9 - os6.length ≤ gm ∧ os6.length ≤ 8 ∧ Aside (ES bx ab eb B en T w k p m6 os6 wr (.slice ya6 os6.length yc6) rows6) ∧ Aside (pEv en (T.drop n) = pE0 en (pE2 k p (pOps en (11 - os6.length) (T.drop m6) os6))))
        case atStart => exact ⟨m5, os ++ [o], ya, yc, rows5, by omega, by have := hlen5.out; omega, E5H.out, by show _ = _; rw [hlen5.out]; exact HE5.out⟩
        case round =>
          clear E5H HE5 hlen5 hos hrows hta htc hm
          clear m os rows ta tc o
          obtain ⟨m, os, ta, tc, rows, hgm, h8le, ES0, HE4⟩ := hrel
          have S := hid (sees_is bx m en 3 ⟨#[91]⟩ T wr (by decide) ES0.out.pb)
          obtain ⟨f0, hf0⟩ : ∃ f0, 11 - os.length = f0 + 1 := ⟨10 - os.length, by omega⟩
          rw [hf0] at HE4
          have HF0 := hid hf0
          clear hf0
          cases hs : seesP (T.drop m) 3 ⟨#[91]⟩ with
          | true =>
            rw [hs] at S
            go_wp2_with fail
            go_at_call 66
            refine S.out.mono ?_
            rintro e w2 ⟨rfl, b2⟩
            have b2b : Beside bx wr w2 := Beside.of_below b2
            have ESa : Hid (ES bx ab eb B en T w k p m os w2 (.slice ta os.length tc) rows) := ⟨ES0.out.pb.keep (b2.mono ES0.out.pb.lt), ES0.out.ec.beside b2b nE1, ES0.out.ac.beside b2b nA1, ES0.out.be.trans b2b, ES0.out.out.beside (fun _ _ _ _ _ _ h => h.keep) b2b nBB, Nat.le_trans ES0.out.size b2.size⟩
            clear b2 b2b ES0 S
            have ES0 := ESa
            clear ESa
            have x2a := ES0.out.ec.c2
            by_cases h8 : os.length = 8
            · have h8i : ((os.length : Int) == 8) = true := by rw [h8]; rfl
              have HE5 : Hid (pEv en (T.drop n) = .error (nextAt en (T.drop m), 4)) := by show _ = _; rw [HE4.out, pOps_full hs h8]; rfl
              have G := hid (giveUp_is bx m en 4 T w2 ES0.out.pb)
              go_wp2_with fail
              go_at_call 40
              refine G.out.mono ?_
              rintro e w3 ⟨rfl, b3⟩
              refine ⟨rfl, ?_⟩
              show ToldR bx en T w _ (pEv en (T.drop n)) _ _
              rw [HE5.out]
              exact ⟨rfl, ES0.out.be.trans (Beside.of_below b3)⟩
            · have h8i : ((os.length : Int) == 8) = false := by rw [beq_eq_false_iff_ne]; omega
              have hmore := hid (pOps_more (en := en) (f := f0) hs h8)
              go_wp2_with fail
              clear x2a
              rename_i W' _ _
              obtain ⟨W, hW⟩ : ∃ W, W = w2 := ⟨_, rfl⟩
              rw [← hW] at ES0 ⊢
              clear hW
              have HB1 : Hid (B ≤ W.heap.size) := ES0.out.size
              have OUT := hid ES0.out.out
              have OUTB : Hid (∀ V, Beside bx W V → OutInv 74 6 OpRow B V (.slice ta os.length tc) os.length rows os) := fun V hb => ES0.out.out.beside (fun _ _ _ _ _ _ h => h.keep) hb nBB
              have x2 := ES0.out.ec.c2
              have EL := hid ES0.out.ec.lt
              have PBD : Hid (PB bx en T m W.drew) := ES0.out.pb.keep (below_drew1 (Below.refl _ _))
              cases hpo : pOp en (T.drop m) with
              | error f =>
                have HE5 : Hid (pEv en (T.drop n) = .error f) := by show _ = _; rw [HE4.out, hmore.out, and_err hpo]; rfl
                have OPC : Hid (∀ V, PB bx en T m V → Calls Tryz.prog 65 #[.pointer (some ⟨bx, 0, none⟩)] V fun e w' => e = gaveUp f.1 f.2 ∧ Beside bx V w') := fun V hV => (op_is bx m en T V hV).mono fun e w' hh => by rw [hpo] at hh; exact hh
                refine wp_region_gen Tryz.mixedOrders (by kernel_rfl) (fun val => { tmps := #[_, _, _, _, _, _, _, _, _, _, _, _, _, _, _, _, _, _, _, _, _, _, _, _, _, _, val 0, val 1, val 2, val 3, val 4, val 5, val 6, _, _, _, _, _, _, _, _, _, _, _, _, _, _, _, _, _, _, _], defers := [] }) (fun i => match i with | 0 => u26 | 1 => u27 | 2 => u28 | 3 => u29 | 4 => u30 | 5 => u31 | 6 => u32 | 7 => undef | _ => undef) rfl (fun L V => Beside bx W V ∧ PB bx en T m V) (fun L i y V => match i with | 0 => y = .pointer (some ⟨eb, 2, none⟩) | 1 => y = .slice ta os.length tc | 2 => y = .pointer (some ⟨bx, 0, none⟩) | 3 => False | 4 => False | 5 => False | 6 => y = .pointer (some ⟨eb, 2, none⟩) | 7 => True | _ => True) ⟨be_drew (Beside.refl bx W), PBD.out⟩ _ rfl ⟨?_, ?_, ?_, ?_, ?_, ?_, ?_, ?_, trivial⟩ ?_
                · refine gen_plain rfl (fun _ _ => rfl) (fun L val V hc hi hu hg hd => ?_)
                  refine gdoes_value (v := .pointer (some ⟨eb, 2, none⟩)) ?_ rfl hg (fun j u hj hr => hr)
                  simp [execOp, Act.eval, go_sem]
                · refine gen_plain rfl (fun _ _ => rfl) (fun L val V hc hi hu hg hd => ?_)
                  have h0 : val 0 = .pointer (some ⟨eb, 2, none⟩) := depsG_get hd 0 (by kernel_rfl)
                  have e2 : V.cell? ⟨eb, 2, none⟩ = some (.slice ta os.length tc) := (hg.1.cell (p := ⟨eb, 2, none⟩) EL.out nE1).trans x2
                  refine gdoes_value (v := .slice ta os.length tc) ?_ rfl hg (fun j u hj hr => hr)
                  simp [execOp, Act.eval, go_sem, h0, e2]
                · refine gen_plain rfl (fun _ _ => rfl) (fun L val V hc hi hu hg hd => ?_)
                  refine gdoes_value (v := .pointer (some ⟨bx, 0, none⟩)) ?_ rfl hg (fun j u hj hr => hr)
                  simp [execOp, Act.eval, go_sem]
                · refine gen_plain rfl (fun _ _ => rfl) (fun L val V hc hi hu hg hd => ?_)
                  have h2 : val 2 = .pointer (some ⟨bx, 0, none⟩) := depsG_get hd 2 (by kernel_rfl)
                  refine gdoes_gone (f := 65) (args := #[.pointer (some ⟨bx, 0, none⟩)]) ?_ (OPC.out V hg.2) ?_
                  · simp [execOp, Act.eval, go_sem, resolve, invoke, h2]
                  · rintro e w' ⟨rfl, hb3⟩
                    refine ⟨_, rfl, rfl, ?_⟩
                    show ToldR bx en T w _ (pEv en (T.drop n)) _ _
                    rw [HE5.out]
                    exact ⟨rfl, (ES0.out.be.trans hg.1).trans hb3⟩
                · refine gen_plain rfl (fun _ _ => rfl) (fun L val V hc hi hu hg hd => ?_)
                  exact (depsG_get hd 3 (by kernel_rfl) : False).elim
                · refine gen_plain rfl (fun _ _ => rfl) (fun L val V hc hi hu hg hd => ?_)
                  exact (depsG_get hd 4 (by kernel_rfl) : False).elim
                · refine gen_plain rfl (fun _ _ => rfl) (fun L val V hc hi hu hg hd => ?_)
                  refine gdoes_value (v := .pointer (some ⟨eb, 2, none⟩)) ?_ rfl hg (fun j u hj hr => hr)
                  simp [execOp, Act.eval, go_sem]
                · refine gen_plain rfl (fun _ _ => rfl) (fun L val V hc hi hu hg hd => ?_)
                  exact (depsG_get hd 5 (by kernel_rfl) : False).elim
                intro L val V hL hg hR
                exact ((hR 3 (by decide) : False)).elim
              | ok z =>
                obtain ⟨o, l2⟩ := z
                have HE5 : Hid (pEv en (T.drop n) = pE0 en (pE2 k p (pOps en f0 l2 (os ++ [o])))) := by show _ = _; rw [HE4.out, hmore.out, and_ok hpo]
                have OPC : Hid (∀ V, PB bx en T m V → Calls Tryz.prog 65 #[.pointer (some ⟨bx, 0, none⟩)] V fun e w' => (∃ m', l2 = T.drop m' ∧ PB bx en T m' w') ∧ (∃ v, e = .returned v ∧ OpV (fun b => V.heap.size ≤ b) w' v o) ∧ Beside bx V w') := fun V hV => (op_is bx m en T V hV).mono fun e w' hh => by rw [hpo] at hh; exact hh
                refine wp_region_gen Tryz.mixedOrders (by kernel_rfl) (fun val => { tmps := #[_, _, _, _, _, _, _, _, _, _, _, _, _, _, _, _, _, _, _, _, _, _, _, _, _, _, val 0, val 1, val 2, val 3, val 4, val 5, val 6, _, _, _, _, _, _, _, _, _, _, _, _, _, _, _, _, _, _, _], defers := [] }) (fun i => match i with | 0 => u26 | 1 => u27 | 2 => u28 | 3 => u29 | 4 => u30 | 5 => u31 | 6 => u32 | 7 => undef | _ => undef) rfl (fun L V => (L 5 = false → Beside bx W V) ∧ (L 3 = false → PB bx en T m V) ∧ (L 3 = true → ∃ m2, l2 = T.drop m2 ∧ PB bx en T m2 V) ∧ (L 7 = true → ∃ m2 ya yc rows2, l2 = T.drop m2 ∧ ES bx ab eb B en T w k p m2 (os ++ [o]) V (.slice ya (os ++ [o]).length yc) rows2)) (fun L i y V => match i with | 0 => y = .pointer (some ⟨eb, 2, none⟩) | 1 => y = .slice ta os.length tc | 2 => y = .pointer (some ⟨bx, 0, none⟩) | 3 => ∃ la lc, y = .agg #[.int .i64 o.kind, .string o.key, .int .i64 o.value, .slice la o.list.length lc, .bool o.has, .bool o.nl] ∧ (L 5 = false → IntsIn (fun b => W.heap.size ≤ b) V (.slice la o.list.length lc) o.list) | 4 => L 5 = false → ∃ nb la lc, W.heap.size ≤ nb ∧ y = .slice (some ⟨nb, 0, none⟩) 1 1 ∧ V.heap[nb]? = some (.cells #[.int .i64 o.kind, .string o.key, .int .i64 o.value, .slice la o.list.length lc, .bool o.has, .bool o.nl] 74) ∧ IntsIn (fun b => W.heap.size ≤ b) V (.slice la o.list.length lc) o.list | 5 => L 7 = false → AppO bx B W V os o y | 6 => y = .pointer (some ⟨eb, 2, none⟩) | 7 => True | _ => True) ⟨fun _ => be_drew (Beside.refl bx W), fun _ => PBD.out, fun c => (by cases c), fun c => (by cases c)⟩ _ rfl ⟨?_, ?_, ?_, ?_, ?_, ?_, ?_, ?_, trivial⟩ ?_
                · refine gen_plain rfl (fun _ _ => rfl) (fun L val V hc hi hu hg hd => ?_)
                  refine gdoes_value (v := .pointer (some ⟨eb, 2, none⟩)) ?_ rfl hg (fun j u hj hr => hr)
                  simp [execOp, Act.eval, go_sem]
                · refine gen_plain rfl (fun _ _ => rfl) (fun L val V hc hi hu hg hd => ?_)
                  have h0 : val 0 = .pointer (some ⟨eb, 2, none⟩) := depsG_get hd 0 (by kernel_rfl)
                  have h5 : L 5 = false := wants_back hc 10 5 1 (by kernel_rfl) hi
                  have e2 : V.cell? ⟨eb, 2, none⟩ = some (.slice ta os.length tc) := ((hg.1 h5).cell (p := ⟨eb, 2, none⟩) EL.out nE1).trans x2
                  refine gdoes_value (v := .slice ta os.length tc) ?_ rfl hg (fun j u hj hr => hr)
                  simp [execOp, Act.eval, go_sem, h0, e2]
                · refine gen_plain rfl (fun _ _ => rfl) (fun L val V hc hi hu hg hd => ?_)
                  refine gdoes_value (v := .pointer (some ⟨bx, 0, none⟩)) ?_ rfl hg (fun j u hj hr => hr)
                  simp [execOp, Act.eval, go_sem]
                · refine gen_plain rfl (fun _ _ => rfl) (fun L val V hc hi hu hg hd => ?_)
                  have h2 : val 2 = .pointer (some ⟨bx, 0, none⟩) := depsG_get hd 2 (by kernel_rfl)
                  have h5 : L 5 = false := wants_back hc 10 5 3 (by kernel_rfl) hi
                  have h7 : L 7 = false := wants_back hc 10 7 3 (by kernel_rfl) hi
                  have hbW := hg.1 h5
                  refine gdoes_call (f := 65) (args := #[.pointer (some ⟨bx, 0, none⟩)]) ?_ (OPC.out V (hg.2.1 hi)) ?_
                  · simp [execOp, Act.eval, go_sem, resolve, invoke, h2]
                  · rintro e w' ⟨⟨m2, q1, q2⟩, ⟨v, rfl, ho⟩, hb3⟩
                    obtain ⟨lv, rfl, hi2⟩ := ho
                    obtain ⟨la, lc, rfl, hi3⟩ := id hi2
                    refine ⟨_, rfl, ⟨la, lc, rfl, fun _ => hi2.keep (fun _ _ _ => rfl) (fun b _ hb => Nat.le_trans hbW.size hb)⟩, ⟨fun _ => hbW.trans hb3, fun c => (by rw [upB_self] at c; cases c), fun _ => ⟨m2, q1, q2⟩, fun c => (by rw [show upB L 3 7 = L 7 from rfl, h7] at c; cases c)⟩, ?_⟩
                    intro j u hj hr
                    match j, hj, hr with
                    | 0, _, hr => exact hr
                    | 1, _, hr => exact hr
                    | 2, _, hr => exact hr
                    | 3, hj, hr => rw [hi] at hj; cases hj
                    | 4, hj, hr => rw [wants_back hc 10 4 3 (by kernel_rfl) hi] at hj; cases hj
                    | 5, hj, hr => rw [h5] at hj; cases hj
                    | 6, _, hr => exact hr
                    | 7, _, hr => trivial
                    | _ + 8, _, hr => trivial
                · refine gen_plain rfl (fun _ _ => rfl) (fun L val V hc hi hu hg hd => ?_)
                  obtain ⟨la, lc, h3, ho⟩ := depsG_get hd 3 (by kernel_rfl)
                  have o3 := depsG_on hd 3 (by kernel_rfl)
                  have h5 : L 5 = false := wants_back hc 10 5 4 (by kernel_rfl) hi
                  have h7 : L 7 = false := wants_back hc 10 7 4 (by kernel_rfl) hi
                  have hbW := hg.1 h5
                  have hbv : Below V.heap.size V (V.alloc (.cells #[.int .i64 o.kind, .string o.key, .int .i64 o.value, .slice la o.list.length lc, .bool o.has, .bool o.nl] 74)) := below_box V _
                  refine gdoes_turn (v := .slice (some ⟨V.heap.size, 0, none⟩) 1 1) (w' := V.alloc (.cells #[.int .i64 o.kind, .string o.key, .int .i64 o.value, .slice la o.list.length lc, .bool o.has, .bool o.nl] 74)) ?_ (fun _ => ⟨V.heap.size, la, lc, hbW.size, rfl, heap_alloc_new V _, (ho h5).keep (keeps_below hbv) (fun _ _ h => h)⟩) ⟨fun _ => hbW.trans (Beside.of_below hbv), fun c => (by rw [show upB L 4 3 = L 3 from rfl, o3] at c; cases c), fun _ => (hg.2.2.1 o3).imp fun m2 q => ⟨q.1, q.2.keep (hbv.mono q.2.lt)⟩, fun c => (by rw [show upB L 4 7 = L 7 from rfl, h7] at c; cases c)⟩ ?_
                  · simp [execOp, Act.eval, go_sem, h3]
                  · intro j u hj hr
                    match j, hj, hr with
                    | 0, _, hr => exact hr
                    | 1, _, hr => exact hr
                    | 2, _, hr => exact hr
                    | 3, hj, hr => exact hr.imp fun la hr => hr.imp fun lc hr => ⟨hr.1, fun c => (hr.2 h5).keep (keeps_below hbv) (fun _ _ h => h)⟩
                    | 4, hj, hr => rw [hi] at hj; cases hj
                    | 5, hj, hr => rw [h5] at hj; cases hj
                    | 6, _, hr => exact hr
                    | 7, _, hr => trivial
                    | _ + 8, _, hr => trivial
                · refine gen_plain rfl (fun _ _ => rfl) (fun L val V hc hi hu hg hd => ?_)
                  have h1 : val 1 = .slice ta os.length tc := depsG_get hd 1 (by kernel_rfl)
                  obtain ⟨nb, la, lc, q1, q2, q3, q4⟩ := depsG_get hd 4 (by kernel_rfl) hi
                  have o4 := depsG_on hd 4 (by kernel_rfl)
                  have o3 := wants_done hc 10 4 3 (by kernel_rfl) o4
                  have h7 : L 7 = false := wants_back hc 10 7 5 (by kernel_rfl) hi
                  have hbW := hg.1 hi
                  intro K hK
                  refine wp_appendO B V _ _ rfl (.slice ta os.length tc) os.length rows.flatten o.kind o.key o.value la o.list.length lc o.has o.nl (show val 1 = _ from h1) nb (show val 4 = _ from q2) q3 (OUTB.out V hbW).own (Nat.le_trans HB1.out hbW.size) (by omega) (fun g cap V' ho hgr hat => ?_)
                  have hown : ∀ b, b < B → (Value.slice ta os.length tc).ownBlock ≠ some b := fun b hb c => by have := (OUT.out.own.lt b c).1; omega
                  have hbb : Below B V V' := (Below.refl B V).grown hgr (Nat.le_trans HB1.out hbW.size) (fun b c => (OUT.out.own.lt b c).1)
                  refine hK _ V' (fun _ => ⟨_, OUT.out.grow (fun _ _ _ _ _ _ h => h.keep) HB1.out nBB hbW (row := [.int .i64 o.kind, .string o.key, .int .i64 o.value, .slice la o.list.length lc, .bool o.has, .bool o.nl]) (x := o) ⟨_, rfl, q4⟩ rfl ho hgr hat, hbb.os.trans hbW.os, hbb.tape.trans hbW.tape, hbb.output.trans hbW.output, Nat.le_trans hbW.size hbb.size, fun b hb hn => (hbb.block b hb).trans (hbW.block b (Nat.lt_of_lt_of_le hb HB1.out) hn)⟩) ⟨fun c => (by rw [upB_self] at c; cases c), fun c => (by rw [show upB L 5 3 = L 3 from rfl, o3] at c; cases c), fun _ => (hg.2.2.1 o3).imp fun m2 q => ⟨q.1, q.2.keep (hbb.mono nBB)⟩, fun c => (by rw [show upB L 5 7 = L 7 from rfl, h7] at c; cases c)⟩ ?_
                  intro j u hj hr
                  match j, hj, hr with
                  | 0, _, hr => exact hr
                  | 1, _, hr => exact hr
                  | 2, _, hr => exact hr
                  | 3, hj, hr => exact hr.imp fun la hr => hr.imp fun lc hr => ⟨hr.1, fun c => (by rw [upB_self] at c; cases c)⟩
                  | 4, hj, hr => exact fun c => (by rw [upB_self] at c; cases c)
                  | 5, hj, hr => rw [hi] at hj; cases hj
                  | 6, _, hr => exact hr
                  | 7, _, hr => trivial
                  | _ + 8, _, hr => trivial
                · refine gen_plain rfl (fun _ _ => rfl) (fun L val V hc hi hu hg hd => ?_)
                  refine gdoes_value (v := .pointer (some ⟨eb, 2, none⟩)) ?_ rfl hg (fun j u hj hr => hr)
                  simp [execOp, Act.eval, go_sem]
                · refine gen_plain rfl (fun _ _ => rfl) (fun L val V hc hi hu hg hd => ?_)
                  have h6 : val 6 = .pointer (some ⟨eb, 2, none⟩) := depsG_get hd 6 (by kernel_rfl)
                  have o5 := depsG_on hd 5 (by kernel_rfl)
                  have o3 := wants_done hc 10 5 3 (by kernel_rfl) o5
                  have hA := depsG_get hd 5 (by kernel_rfl) hi
                  obtain ⟨ya, yc, hy⟩ := hA.choose_spec.1.sliceV
                  obtain ⟨m2, p1, p2⟩ := hg.2.2.1 o3
                  rw [hy] at hA
                  have nb := hA.choose_spec.2
                  have ep := nb.block eb nE2 nE1
                  have e0 : V.cell? ⟨eb, 2, none⟩ = some (.slice ta os.length tc) := (World.cell?_of_block (w := W) ep).trans x2
                  have e1 : V.frozen? ⟨eb, 2, none⟩ = false := (show V.frozen? ⟨eb, 2, none⟩ = W.frozen? ⟨eb, 2, none⟩ by unfold World.frozen?; rw [ep]).trans ES0.out.ec.z2
                  obtain ⟨rows2, es⟩ := ES0.out.final hA p2 nA2 nE2 nA1 nE1 nEA nXE nWE nWB
                  refine gdoes_skip (w' := V.setCell ⟨eb, 2, none⟩ (.slice ya (os.length + 1) yc)) ?_ trivial ⟨fun c => (by rw [show upB L 7 5 = L 5 from rfl, o5] at c; cases c), fun c => (by rw [show upB L 7 3 = L 3 from rfl, o3] at c; cases c), fun _ => ⟨m2, p1, p2.set nXE _⟩, fun _ => ⟨m2, ya, yc, rows2, p1, es⟩⟩ ?_
                  · simp [execOp, Act.eval, go_sem, h6, hy, e0, e1]
                  · intro j u hj hr
                    match j, hj, hr with
                    | 0, _, hr => exact hr
                    | 1, _, hr => exact hr
                    | 2, _, hr => exact hr
                    | 3, hj, hr => exact hr.imp fun la hr => hr.imp fun lc hr => ⟨hr.1, fun c => (by rw [show upB L 7 5 = L 5 from rfl, o5] at c; cases c)⟩
                    | 4, hj, hr => exact fun c => (by rw [show upB L 7 5 = L 5 from rfl, o5] at c; cases c)
                    | 5, hj, hr => exact fun c => (by rw [upB_self] at c; cases c)
                    | 6, _, hr => exact hr
                    | 7, hj, hr => trivial
                    | _ + 8, _, hr => trivial
                intro L val V hL hg hR
                obtain ⟨m5, ya, yc, rows5, hm5, ES5⟩ := hg.2.2.2 (hL 7 (by decide))
                subst hm5
                have E5H := hid ES5
                have hlen5 : Hid ((os ++ [o]).length = os.length + 1) := by show _ = _; simp
                clear hg hR hL ES5 OPC x2 EL PBD OUTB OUT HB1 ES0 hpo HE4
                go_wp2_with fail
                have hl5 := hlen5.out
                have hf5 := HF0.out
                go_roundg (9 - (os ++ [o]).length)
                case measure => omega
                case rel => exact ⟨m5, os ++ [o], ya, yc, rows5, Nat.le_refl _, by omega, E5H.out, by show _ = _; rw [HE5.out, show 11 - (os ++ [o]).length = f0 by omega]⟩
          | false =>
            rw [hs] at S
            have HE5 : Hid (pEv en (T.drop n) = pE0 en (.ok ((k, p, os), T.drop m))) := by show _ = _; rw [HE4.out, pOps_end hs]; rfl
            go_wp2_with fail
            go_at_call 66
            refine S.out.mono ?_
            rintro e w2 ⟨rfl, b2⟩
            have b2b : Beside bx wr w2 := Beside.of_below b2
            have ESa : Hid (ES bx ab eb B en T w k p m os w2 (.slice ta os.length tc) rows) := ⟨ES0.out.pb.keep (b2.mono ES0.out.pb.lt), ES0.out.ec.beside b2b nE1, ES0.out.ac.beside b2b nA1, ES0.out.be.trans b2b, ES0.out.out.beside (fun _ _ _ _ _ _ h => h.keep) b2b nBB, Nat.le_trans ES0.out.size b2.size⟩
            clear b2 b2b ES0 S
            have ES0 := ESa
            clear ESa
            go_wp2_with fail
            obtain ⟨ao, ac, c0⟩ := ES0.out.pb.tokens
            have v0 := bcell c0
            have v1 := bcell ES0.out.pb.c1
            have ST : Hid (∀ q : BW w2, Calls Tryz.prog 39 #[.pointer (some ⟨bx, 0, none⟩)] q.val fun e w'' => e = .returned (tokV (lookT en T m)) ∧ ∃ q' : BW w2, w'' = q'.val) := fun q =>
              (look_is bx m en T q.val (ES0.out.pb.keep (q.2.mono ES0.out.pb.lt))).mono fun e w' ⟨h1, h2⟩ => ⟨h1, ⟨w', bstep h2 q.2⟩, rfl⟩
            have bwS : Nonempty (BW w2) := bwSome w2
            by_cases hmt : m < T.length
            · have hmi : (m : Int) < (T.length : Int) := by omega
              by_cases h4 : (lookT en T m).1 = 4
              · have HE6 : Hid (pEv en (T.drop n) = .ok ((k, p, os), T.drop m)) := by show _ = _; rw [HE5.out]; show andP (pEnd en (T.drop m)) (fun _ l5 => .ok (((k, p, os) : MEv), l5)) = _; rw [pEnd_ok (fun _ => h4)]; rfl
                generalize lookT en T m = t at ST h4
                have tf := tokf0 t.1 t.2.1 t.2.2.1 t.2.2.2
                have h4n : (t.1 != 4) = false := by rw [h4]; rfl
                refine wp_region_quiet_below Tryz.mixedOrders (by kernel_rfl) ?_
                repeat (go_big_quiet_step ((go_at_call 39; exact ST.out _)))
                refine wpQuiet_nil ?_
                intro w7 hw7
                obtain ⟨⟨V7, hb7⟩, hw8⟩ := hw7
                have hw9 : w7 = V7 := hw8
                subst hw9
                have b7b : Beside bx w2 w7 := Beside.of_below hb7
                have ES7 : Hid (ES bx ab eb B en T w k p m os w7 (.slice ta os.length tc) rows) := ⟨ES0.out.pb.keep (hb7.mono ES0.out.pb.lt), ES0.out.ec.beside b7b nE1, ES0.out.ac.beside b7b nA1, ES0.out.be.trans b7b, ES0.out.out.beside (fun _ _ _ _ _ _ h => h.keep) b7b nBB, Nat.le_trans ES0.out.size hb7.size⟩
                clear hw8 v0 v1 ST bwS hb7 b7b ES0
                obtain ⟨o0, o1, o2, p0, p1, p2⟩ := ES7.out.ec
                obtain ⟨a0, a1, a2, z0, z1, z2⟩ := ES7.out.ac
                have nAE : ab ≠ eb := fun c => nEA c.symm
                rw [nWab] at a0 a1 a2 z0 z1 z2 nEA nAE
                go_wp2_with fail
                rw [HE6.out]
                refine bodyPost_ret (v := .agg #[.int .i64 k, .int .i64 p, .slice ta os.length tc]) (by simp [results, Tryz.results41, go_sem, a0, a1, a2]) rfl ⟨⟨m, rfl, ((ES7.out.pb.set (by omega) _).set (by omega) _).set (by omega) _⟩, ⟨_, rfl, _, rfl, ?_⟩, ((ES7.out.be.setNew (p := ⟨w.heap.size, 0, none⟩) (Nat.le_refl _) _).setNew (p := ⟨w.heap.size, 1, none⟩) (Nat.le_refl _) _).setNew (p := ⟨w.heap.size, 2, none⟩) (Nat.le_refl _) _⟩
                have hr := ES7.out.out.rows_in (bytes := 64) (fun _ _ _ _ _ _ h => h.keep) (by omega)
                have hb3 : Beside w.heap.size w7 (((w7.setCell ⟨w.heap.size, 0, none⟩ (.int .i64 k)).setCell ⟨w.heap.size, 1, none⟩ (.int .i64 p)).setCell ⟨w.heap.size, 2, none⟩ (.slice ta os.length tc)) := (((Beside.refl w.heap.size w7).setCell (p := ⟨w.heap.size, 0, none⟩) rfl _).setCell (p := ⟨w.heap.size, 1, none⟩) rfl _).setCell (p := ⟨w.heap.size, 2, none⟩) rfl _
                exact OpsIn.keep hr (hb3.keepsIn (by omega) _ (fun _ h => h)) (fun b _ hb => by omega)
              · have HE6 : Hid (pEv en (T.drop n) = .error (nextAt en (T.drop m), 20)) := by show _ = _; rw [HE5.out]; show andP (pEnd en (T.drop m)) (fun _ l5 => .ok (((k, p, os) : MEv), l5)) = _; rw [pEnd_not hmt h4]; rfl
                generalize lookT en T m = t at ST h4
                have tf := tokf0 t.1 t.2.1 t.2.2.1 t.2.2.2
                have h4n : (t.1 != 4) = true := by simpa using h4
                refine wp_region_quiet_below Tryz.mixedOrders (by kernel_rfl) ?_
                repeat (go_big_quiet_step ((go_at_call 39; exact ST.out _)))
                refine wpQuiet_nil ?_
                intro w7 hw7
                obtain ⟨⟨V7, hb7⟩, hw8⟩ := hw7
                have hw9 : w7 = V7 := hw8
                subst hw9
                have G := hid (giveUp_is bx m en 20 T w7 (ES0.out.pb.keep (hb7.mono ES0.out.pb.lt)))
                have B7 := hid hb7
                clear hw8 v0 v1 ST bwS hb7
                go_wp2_with fail
                go_at_call 40
                refine G.out.mono ?_
                rintro e w3 ⟨rfl, b3⟩
                refine ⟨rfl, ?_⟩
                show ToldR bx en T w _ (pEv en (T.drop n)) _ _
                rw [HE6.out]
                exact ⟨rfl, (ES0.out.be.trans (Beside.of_below B7.out)).trans (Beside.of_below b3)⟩
            · have hmi : ¬ (m : Int) < (T.length : Int) := by omega
              have HE6 : Hid (pEv en (T.drop n) = .ok ((k, p, os), T.drop m)) := by show _ = _; rw [HE5.out]; show andP (pEnd en (T.drop m)) (fun _ l5 => .ok (((k, p, os) : MEv), l5)) = _; rw [pEnd_ok (fun c => absurd c hmt)]; rfl
              refine wp_region_quiet_below Tryz.mixedOrders (by kernel_rfl) ?_
              repeat (go_big_quiet_step (fail))
              refine wpQuiet_nil ?_
              intro w7 hw7
              obtain ⟨⟨V7, hb7⟩, hw8⟩ := hw7
              have hw9 : w7 = V7 := hw8
              subst hw9
              have b7b : Beside bx w2 w7 := Beside.of_below hb7
              have ES7 : Hid (ES bx ab eb B en T w k p m os w7 (.slice ta os.length tc) rows) := ⟨ES0.out.pb.keep (hb7.mono ES0.out.pb.lt), ES0.out.ec.beside b7b nE1, ES0.out.ac.beside b7b nA1, ES0.out.be.trans b7b, ES0.out.out.beside (fun _ _ _ _ _ _ h => h.keep) b7b nBB, Nat.le_trans ES0.out.size hb7.size⟩
              clear hw8 v0 v1 ST bwS hb7 b7b ES0
              obtain ⟨o0, o1, o2, p0, p1, p2⟩ := ES7.out.ec
              obtain ⟨a0, a1, a2, z0, z1, z2⟩ := ES7.out.ac
              have nAE : ab ≠ eb := fun c => nEA c.symm
              rw [nWab] at a0 a1 a2 z0 z1 z2 nEA nAE
              go_wp2_with fail
              rw [HE6.out]
              refine bodyPost_ret (v := .agg #[.int .i64 k, .int .i64 p, .slice ta os.length tc]) (by simp [results, Tryz.results41, go_sem, a0, a1, a2]) rfl ⟨⟨m, rfl, ((ES7.out.pb.set (by omega) _).set (by omega) _).set (by omega) _⟩, ⟨_, rfl, _, rfl, ?_⟩, ((ES7.out.be.setNew (p := ⟨w.heap.size, 0, none⟩) (Nat.le_refl _) _).setNew (p := ⟨w.heap.size, 1, none⟩) (Nat.le_refl _) _).setNew (p := ⟨w.heap.size, 2, none⟩) (Nat.le_refl _) _⟩
              have hr := ES7.out.out.rows_in (bytes := 64) (fun _ _ _ _ _ _ h => h.keep) (by omega)
              have hb3 : Beside w.heap.size w7 (((w7.setCell ⟨w.heap.size, 0, none⟩ (.int .i64 k)).setCell ⟨w.heap.size, 1, none⟩ (.int .i64 p)).setCell ⟨w.heap.size, 2, none⟩ (.slice ta os.length tc)) := (((Beside.refl w.heap.size w7).setCell (p := ⟨w.heap.size, 0, none⟩) rfl _).setCell (p := ⟨w.heap.size, 1, none⟩) rfl _).setCell (p := ⟨w.heap.size, 2, none⟩) rfl _
              exact OpsIn.keep hr (hb3.keepsIn (by omega) _ (fun _ h => h)) (fun b _ hb => by omega)
end Go.Proofs.YtegeiojcdjnmjaaGreatDoor
