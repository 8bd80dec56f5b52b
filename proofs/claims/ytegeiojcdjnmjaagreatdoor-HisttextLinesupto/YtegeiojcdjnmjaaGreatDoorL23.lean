/-
  The document's reader of tokens: an event.
-/
import Derived.Test.YtegeiojcdjnmjaaGreatDoorL22
import Derived.Deep.Cut
import Derived.Deep.CutRange
namespace Go.Proofs.YtegeiojcdjnmjaaGreatDoor
set_option linter.unusedVariables false
set_option linter.unusedSimpArgs false
open Go.RowKit

/-- What the reader's event answers. -/
def REvT (bx : Nat) (en : Int) (w : World) (q : MEv × Rd) (e : Ending) (w' : World) : Prop := ∃ v, e = .returned v ∧ EvV (fun b => w.heap.size ≤ b) w' v q.1 ∧ RS bx en w' q.2 ∧ Beside bx w w'
/-- The reader where a process stands: it fails if the number is none. -/
def rChk (en : Int) (r : Rd) : Rd := if rIs r 2 ⟨#[]⟩ && (decide ((r.1.headD noTok).2.2.2 < 0) || decide (99 < (r.1.headD noTok).2.2.2)) then rFail en 20 r else r
theorem rProc_chk (en : Int) (r : Rd) : rProc en r = ((rWant en (rChk en r) 2 ⟨#[]⟩).1.2.2.2, (rWant en (rChk en r) 2 ⟨#[]⟩).2) := rfl
theorem rs_len {bx : Nat} {en : Int} {w : World} {r : Rd} (h : RS bx en w r) : ∃ ao c, w.cell? ⟨bx, 0, none⟩ = some (.slice ao r.1.length c) := by
  obtain ⟨v, hrc, ao, c, rfl, _⟩ := h
  exact ⟨ao, c, hrc.c0⟩
set_option maxHeartbeats 8000000 in
set_option maxRecDepth 100000 in
theorem revent_is (bx : Nat) (en : Int) (r : Rd) (w : World) (h : RS bx en w r) :
    Calls Tryz.prog 20 #[.pointer (some ⟨bx, 0, none⟩)] w (REvT bx en w (rEv en r)) := by
  have hlt := h.lt
  have F3 := tokf3
  obtain ⟨q1, e1⟩ : ∃ q1, rWordFrom en r 0 rEvWords = q1 := ⟨_, rfl⟩
  obtain ⟨k, r1⟩ := q1
  obtain ⟨rc, ec⟩ : ∃ rc, rChk en r1 = rc := ⟨_, rfl⟩
  obtain ⟨q2, e2⟩ : ∃ q2, rWant en rc 2 ⟨#[]⟩ = q2 := ⟨_, rfl⟩
  obtain ⟨⟨pa, pb, pc, p⟩, r2p⟩ := q2
  obtain ⟨q3, e3⟩ : ∃ q3, rOp en r2p = q3 := ⟨_, rfl⟩
  obtain ⟨o1, r3⟩ := q3
  have HE : Hid (rEv en r = ((k, p, (rOps en 10 r3 [o1]).1), rEnd en (rOps en 10 r3 [o1]).2)) := by
    show _ = _
    unfold rEv
    rw [e1]
    simp only
    rw [rProc_chk, ec, e2]
    simp only
    rw [e3]
  have E1 := hid e1
  have EC0 := hid ec
  have E2 := hid e2
  have E3 := hid e3
  clear e1 ec e2 e3
  obtain ⟨W0, hW0⟩ : ∃ W0, w.alloc (.cells #[.int .i64 0, .int .i64 0, .slice none 0 0] 62) = W0 := ⟨_, rfl⟩
  have A0 : Hid (EC w.heap.size W0 0 0 (.slice none 0 0)) := by rw [← hW0]; exact ec_new w 0 0 _
  have R0 : Hid (RS bx en W0 r) := by rw [← hW0]; exact rs_new h _
  have B0 : Hid (Beside bx w W0) := by rw [← hW0]; exact Beside.of_below (below_box w _)
  clear h
  go_enter Tryz.func20, Tryz.ntmps20
  go_wp2_with fail
  clear hW0
  go_at_call 43
  refine (rword_any bx W0.heap.size en _ rEvWords _ (by simp) (rs_new R0.out _) (fun j x hx => (new_cells W0 _ _ j).trans (by match j, hx with | 0, hx => (cases hx; rfl) | 1, hx => (cases hx; rfl) | 2, hx => (cases hx; rfl) | 3, hx => (cases hx; rfl) | (j + 4), hx => (simp at hx)))).mono ?_
  rintro e w3 ⟨rfl, h3, b3⟩
  rw [E1.out] at h3 ⊢
  simp only at h3
  have hs0 : w.heap.size < W0.heap.size := A0.out.lt
  have A3 := hid ((A0.out.beside (Beside.of_below (bx := bx) (below_box W0 _)) (by omega)).beside b3 (by omega))
  have B3 : Hid (Beside bx w w3) := B0.out.trans ((Beside.of_below (below_box W0 _)).trans b3)
  have hs3 : W0.heap.size < w3.heap.size := Nat.lt_of_lt_of_le (by simp) b3.size
  have H3 := hid h3
  have hb3 : bx < w3.heap.size := h3.lt
  clear h3 b3 A0 R0 B0
  have N0 := hid (ec_new w3 k 0 (.slice none 0 0))
  go_upto_region 2 with fail
  obtain ⟨W1, hW1⟩ : ∃ W1, w3.alloc (.cells #[.int .i64 k, .int .i64 0, .slice none 0 0] 62) = W1 := ⟨_, rfl⟩
  have H4 : Hid (RS bx en W1 r1) := by rw [← hW1]; exact rs_new H3.out _
  have A4 : Hid (EC w.heap.size W1 0 0 (.slice none 0 0)) := by rw [← hW1]; exact A3.out.beside (Beside.of_below (bx := bx) (below_box w3 _)) (by omega)
  have B4 : Hid (Beside bx w W1) := by rw [← hW1]; exact B3.out.trans (Beside.of_below (below_box w3 _))
  have O4 : Hid (EC w3.heap.size W1 k 0 (.slice none 0 0)) := by rw [← hW1]; exact N0.out
  rw [hW1]
  clear hW1 A3 B3 H3 N0
  obtain ⟨bd, hbd⟩ : ∃ bd, (rIs r1 2 ⟨#[]⟩ && (decide ((r1.1.headD noTok).2.2.2 < 0) || decide (99 < (r1.1.headD noTok).2.2.2))) = bd := ⟨_, rfl⟩
  have HRC : Hid (rc = if bd then rFail en 20 r1 else r1) := by show _ = _; rw [← EC0.out, ← hbd]; rfl
  go_cut [29] from 8 to 31 (fun s29 wc => s29 = .bool bd ∧ Aside (wc = W1))
  case first =>
    cases hi : rIs r1 2 ⟨#[]⟩ with
    | false =>
      rw [hi] at hbd
      have hbd2 : bd = false := by rw [← hbd]; rfl
      clear hbd
      go_wp2_with fail
      go_at_call 17
      refine (is_any _ _ _ _ _ _ H4.out).mono ?_
      rintro e w' ⟨rfl, rfl⟩
      rw [hi]
      go_wp2_with fail
      go_meet
      case rel => exact ⟨by rw [hbd2], rfl⟩
    | true =>
      obtain ⟨t, l, rfl, ht⟩ := rIs_true hi
      obtain ⟨b, off, c, e0, hb, hcs⟩ := rs_first H4.out
      have d3 : W1.cell? ⟨b, off + 3, none⟩ = some (.int .i64 t.2.2.2) := hcs 3 _ rfl
      clear hcs
      rw [hi] at hbd
      by_cases n0 : t.2.2.2 < 0
      · have hbd2 : Hid (bd = true) := by show bd = true; rw [← hbd]; simp [n0]
        clear hbd
        go_wp2_with fail
        go_at_call 17
        refine (is_any _ _ _ _ _ _ H4.out).mono ?_
        rintro e w' ⟨rfl, rfl⟩
        rw [hi]
        go_wp2_with fail
        go_meet
        case rel => exact ⟨by rw [hbd2.out] <;> first | rfl | simp [n0, n9] | simp [n0], rfl⟩
      · by_cases n9 : 99 < t.2.2.2
        · have hbd2 : Hid (bd = true) := by show bd = true; rw [← hbd]; simp [n9]
          clear hbd
          go_wp2_with fail
          go_at_call 17
          refine (is_any _ _ _ _ _ _ H4.out).mono ?_
          rintro e w' ⟨rfl, rfl⟩
          rw [hi]
          go_wp2_with fail
          go_meet
          case rel => exact ⟨by rw [hbd2.out] <;> first | rfl | simp [n0, n9] | simp [n0], rfl⟩
        · have hbd2 : Hid (bd = false) := by show bd = false; rw [← hbd]; simp [n0, n9]
          clear hbd
          go_wp2_with fail
          go_at_call 17
          refine (is_any _ _ _ _ _ _ H4.out).mono ?_
          rintro e w' ⟨rfl, rfl⟩
          rw [hi]
          go_wp2_with fail
          go_meet
          case rel => exact ⟨by rw [hbd2.out] <;> first | rfl | simp [n0, n9] | simp [n0], rfl⟩
  case rest =>
    obtain ⟨rfl, hwc⟩ := hcut
    have hwc2 : wc = W1 := hwc
    subst hwc2
    clear hwc hbd
    obtain ⟨W1, hW1⟩ : ∃ W1, W1 = wc := ⟨_, rfl⟩
    rw [← hW1] at H4 A4 B4 O4
    go_upto_if 29 with fail
    go_cut [29] from 8 to 31 (fun s29 wc => ∃ b : Bool, s29 = .bool b ∧ Aside (RS bx en wc rc) ∧ Aside (Beside bx W1 wc))
    case first =>
      cases bd with
      | false =>
        go_wp2_with fail
        go_meet
        case rel => exact ⟨_, rfl, by show RS _ _ _ _; rw [HRC.out, ← hW1]; exact H4.out, by show Beside _ _ _; rw [hW1]; exact Beside.refl _ _⟩
      | true =>
        rw [← hW1]
        clear hW1
        go_wp2_with fail
        go_at_call 19
        refine (fail_any bx en 20 r1 _ H4.out).mono ?_
        rintro e w5 ⟨rfl, h5, b5⟩
        go_wp2_with fail
        go_meet
        case rel => exact ⟨_, rfl, by show RS _ _ _ _; rw [HRC.out]; exact h5, b5⟩
    clear hW1
    obtain ⟨b29, hb29, H5, b5⟩ := hcut
    have A5 := hid (A4.out.beside b5.out (by omega))
    have O5 := hid (O4.out.beside b5.out (by omega))
    have B5 : Hid (Beside bx w wc) := B4.out.trans b5.out
    clear A4 O4 B4 H4 b5
    go_wp2_with fail
    go_at_call 18
    refine (want_any _ _ _ _ _ _ H5.out).mono ?_
    rintro e w4 ⟨he, h4, b4⟩
    rw [E2.out] at he h4
    simp only [tokV] at he h4
    subst he
    have O4 := hid (O5.out.beside b4 (by omega))
    have A4 := hid (A5.out.beside b4 (by omega))
    have B4 : Hid (Beside bx w w4) := B5.out.trans b4
    have P4H := hid h4
    clear h4 b4 A5 O5 B5 H5
    have hs4 : w3.heap.size < w4.heap.size := O4.out.lt
    obtain ⟨W, hW⟩ : ∃ W, w4.setCell ⟨w3.heap.size, 1, none⟩ (.int .i64 p) = W := ⟨_, rfl⟩
    obtain ⟨eb, heb⟩ : ∃ eb, eb = w3.heap.size := ⟨_, rfl⟩
    obtain ⟨ab, hab⟩ : ∃ ab, ab = w.heap.size := ⟨_, rfl⟩
    obtain ⟨B, hBe⟩ : ∃ B, B = eb + 1 := ⟨_, rfl⟩
    obtain ⟨os, hos⟩ : ∃ os : List MOp, os = [] := ⟨_, rfl⟩
    obtain ⟨rows, hrows⟩ : ∃ rows : List (List Value), rows = [] := ⟨_, rfl⟩
    obtain ⟨ta, hta⟩ : ∃ ta : Option Addr, ta = none := ⟨_, rfl⟩
    obtain ⟨tc, htc⟩ : ∃ tc : Nat, tc = 0 := ⟨_, rfl⟩
    have q1 := O4.out.c1
    have y1 := O4.out.z1
    have ER0 : Hid (ER bx ab eb B en w k p r2p os W (.slice ta os.length tc) rows) := by
      show ER _ _ _ _ _ _ _ _ _ _ _ _ _
      rw [← hW, hBe, heb, hab, hos, hrows, hta, htc]
      exact ⟨rs_set (i := 1) (g := w3.heap.size) P4H.out hb3 _, O4.out.set1 p, A4.out.other (g := w3.heap.size) (i := 1) (by omega) _, B4.out.setNew (p := ⟨w3.heap.size, 1, none⟩) (by simp; omega) _, OutInv.nil _ _ _ _ _, by simp [World.setCell]; omega⟩
    have nE1 : eb ≠ bx := by omega
    have nE2 : eb < B := by omega
    have nA1 : ab ≠ bx := by omega
    have nA2 : ab < B := by omega
    have nEA : eb ≠ ab := by omega
    have nXE : bx < eb := by omega
    have nWE : w.heap.size ≤ eb := by omega
    have nWB : ∀ b, b < w.heap.size → b < B := fun b hb => by omega
    have nBB : bx < B := by omega
    have nWab : ab = w.heap.size := hab
    have hos8 : os.length = 0 := by rw [hos]; rfl
    clear O4 A4 B4 P4H
    go_wp2_with fail
    clear q1 y1
    try rw [← heb] at *
    clear hW
    obtain ⟨rr, hrr⟩ : ∃ rr : Rd, rr = r2p := ⟨_, rfl⟩
    rw [← hrr] at ER0 E3
    have HB1 : Hid (B ≤ W.heap.size) := ER0.out.size
    have OUT := hid ER0.out.out
    have OUTB : Hid (∀ V, Beside bx W V → OutInv 74 6 OpRow B V (.slice ta os.length tc) os.length rows os) := fun V hb => ER0.out.out.beside (fun _ _ _ _ _ _ h => h.keep) hb nBB
    have x2 := ER0.out.ec.c2
    have EL := hid ER0.out.ec.lt
    have RSD : Hid (RS bx en W.drew rr) := ER0.out.rs.keep (below_drew1 (Below.refl _ _))
    obtain ⟨o, ho⟩ : ∃ o : MOp, o = o1 := ⟨_, rfl⟩
    obtain ⟨r2, hr2⟩ : ∃ r2 : Rd, r2 = r3 := ⟨_, rfl⟩
    rw [← ho, ← hr2] at E3
    have OPC : Hid (∀ V, RS bx en V rr → Calls Tryz.prog 44 #[.pointer (some ⟨bx, 0, none⟩)] V (OpPost bx en V o r2)) := fun V hV => by have q := rop_any bx en rr V hV; rw [E3.out] at q; exact q
    refine wp_region_gen Tryz.mixedOrders (by kernel_rfl) (fun val => { tmps := #[_, _, _, _, _, _, _, _, _, _, _, _, _, _, _, _, _, _, _, _, _, _, _, _, _, _, _, _, _, _, _, _, _, _, _, _, val 0, val 1, val 2, val 3, val 4, val 5, val 6, _, _, _, _, _, _, _, _, _, _, _, _, _, _, _, _, _, _, _, _, _, _, _, _], defers := [] }) (fun i => match i with | 0 => undef | 1 => undef | 2 => undef | 3 => undef | 4 => undef | 5 => undef | 6 => undef | 7 => undef | _ => undef) rfl (fun L V => (L 5 = false → Beside bx W V) ∧ (L 3 = false → RS bx en V rr) ∧ (L 3 = true → RS bx en V r2) ∧ (L 7 = true → ∃ ya yc rows2, ER bx ab eb B en w k p r2 (os ++ [o]) V (.slice ya (os ++ [o]).length yc) rows2)) (fun L i y V => match i with | 0 => y = .pointer (some ⟨eb, 2, none⟩) | 1 => y = .slice ta os.length tc | 2 => y = .pointer (some ⟨bx, 0, none⟩) | 3 => ∃ la lc, y = .agg #[.int .i64 o.kind, .string o.key, .int .i64 o.value, .slice la o.list.length lc, .bool o.has, .bool o.nl] ∧ (L 5 = false → IntsIn (fun b => W.heap.size ≤ b) V (.slice la o.list.length lc) o.list) | 4 => L 5 = false → ∃ nb la lc, W.heap.size ≤ nb ∧ y = .slice (some ⟨nb, 0, none⟩) 1 1 ∧ V.heap[nb]? = some (.cells #[.int .i64 o.kind, .string o.key, .int .i64 o.value, .slice la o.list.length lc, .bool o.has, .bool o.nl] 74) ∧ IntsIn (fun b => W.heap.size ≤ b) V (.slice la o.list.length lc) o.list | 5 => L 7 = false → AppO bx B W V os o y | 6 => y = .pointer (some ⟨eb, 2, none⟩) | 7 => True | _ => True) ⟨fun _ => be_drew (Beside.refl bx W), fun _ => RSD.out, fun c => (by cases c), fun c => (by cases c)⟩ _ rfl ⟨?_, ?_, ?_, ?_, ?_, ?_, ?_, ?_, trivial⟩ ?_
    · refine gen_plain rfl (fun _ _ => rfl) (fun L val V hc hi hu hg hd => ?_)
      refine gdoes_value (v := .pointer (some ⟨eb, 2, none⟩)) ?_ rfl hg (fun j u hj hr => hr)
      simp [execOp, Act.eval, go_sem]
    · refine gen_plain rfl (fun _ _ => rfl) (fun L val V hc hi hu hg hd => ?_)
      have h0 : val 0 = .pointer (some ⟨eb, 2, none⟩) := depsG_get hd 0 (by kernel_rfl)
      have h5 : L 5 = false := wants_back hc 10 5 1 (by kernel_rfl) hi
      have e2 : V.cell? ⟨eb, 2, none⟩ = some (.slice ta os.length tc) := ((hg.1 h5).cell (p := ⟨eb, 2, none⟩) EL.out nE1).trans x2
      refine gdoes_value (v := .slice ta os.length tc) ?_ rfl hg (fun j u hj hr => hr)
      simp [execOp, Act.eval, go_sem, h0, e2]
    · refine gen_plain rfl (fun _ _ => rfl) (fun L val V hc hi hu hg hd => ?_)
      refine gdoes_value (v := .pointer (some ⟨bx, 0, none⟩)) ?_ rfl hg (fun j u hj hr => hr)
      simp [execOp, Act.eval, go_sem]
    · refine gen_plain rfl (fun _ _ => rfl) (fun L val V hc hi hu hg hd => ?_)
      have h2 : val 2 = .pointer (some ⟨bx, 0, none⟩) := depsG_get hd 2 (by kernel_rfl)
      have h5 : L 5 = false := wants_back hc 10 5 3 (by kernel_rfl) hi
      have h7 : L 7 = false := wants_back hc 10 7 3 (by kernel_rfl) hi
      have hbW := hg.1 h5
      refine gdoes_call (f := 44) (args := #[.pointer (some ⟨bx, 0, none⟩)]) ?_ (OPC.out V (hg.2.1 hi)) ?_
      · simp [execOp, Act.eval, go_sem, resolve, invoke, h2]
      · rintro e w' ⟨lv, rfl, hi2, hr2, hb3⟩
        obtain ⟨la, lc, rfl, hi3⟩ := id hi2
        refine ⟨_, rfl, ⟨la, lc, rfl, fun _ => hi2.keep (fun _ _ _ => rfl) (fun b _ hb => Nat.le_trans hbW.size hb)⟩, ⟨fun _ => hbW.trans hb3, fun c => (by rw [upB_self] at c; cases c), fun _ => hr2, fun c => (by rw [show upB L 3 7 = L 7 from rfl, h7] at c; cases c)⟩, ?_⟩
        intro j u hj hr
        match j, hj, hr with
        | 0, _, hr => exact hr
        | 1, _, hr => exact hr
        | 2, _, hr => exact hr
        | 3, hj, hr => rw [hi] at hj; cases hj
        | 4, hj, hr => rw [wants_back hc 10 4 3 (by kernel_rfl) hi] at hj; cases hj
        | 5, hj, hr => rw [h5] at hj; cases hj
        | 6, _, hr => exact hr
        | 7, _, hr => trivial
        | _ + 8, _, hr => trivial
    · refine gen_plain rfl (fun _ _ => rfl) (fun L val V hc hi hu hg hd => ?_)
      obtain ⟨la, lc, h3, ho⟩ := depsG_get hd 3 (by kernel_rfl)
      have o3 := depsG_on hd 3 (by kernel_rfl)
      have h5 : L 5 = false := wants_back hc 10 5 4 (by kernel_rfl) hi
      have h7 : L 7 = false := wants_back hc 10 7 4 (by kernel_rfl) hi
      have hbW := hg.1 h5
      have hbv : Below V.heap.size V (V.alloc (.cells #[.int .i64 o.kind, .string o.key, .int .i64 o.value, .slice la o.list.length lc, .bool o.has, .bool o.nl] 74)) := below_box V _
      refine gdoes_turn (v := .slice (some ⟨V.heap.size, 0, none⟩) 1 1) (w' := V.alloc (.cells #[.int .i64 o.kind, .string o.key, .int .i64 o.value, .slice la o.list.length lc, .bool o.has, .bool o.nl] 74)) ?_ (fun _ => ⟨V.heap.size, la, lc, hbW.size, rfl, heap_alloc_new V _, (ho h5).keep (keeps_below hbv) (fun _ _ h => h)⟩) ⟨fun _ => hbW.trans (Beside.of_below hbv), fun c => (by rw [show upB L 4 3 = L 3 from rfl, o3] at c; cases c), fun _ => rs_new (hg.2.2.1 o3) _, fun c => (by rw [show upB L 4 7 = L 7 from rfl, h7] at c; cases c)⟩ ?_
      · simp [execOp, Act.eval, go_sem, h3]
      · intro j u hj hr
        match j, hj, hr with
        | 0, _, hr => exact hr
        | 1, _, hr => exact hr
        | 2, _, hr => exact hr
        | 3, hj, hr => exact hr.imp fun la hr => hr.imp fun lc hr => ⟨hr.1, fun c => (hr.2 h5).keep (keeps_below hbv) (fun _ _ h => h)⟩
        | 4, hj, hr => rw [hi] at hj; cases hj
        | 5, hj, hr => rw [h5] at hj; cases hj
        | 6, _, hr => exact hr
        | 7, _, hr => trivial
        | _ + 8, _, hr => trivial
    · refine gen_plain rfl (fun _ _ => rfl) (fun L val V hc hi hu hg hd => ?_)
      have h1 : val 1 = .slice ta os.length tc := depsG_get hd 1 (by kernel_rfl)
      obtain ⟨nb, la, lc, q1, q2, q3, q4⟩ := depsG_get hd 4 (by kernel_rfl) hi
      have o4 := depsG_on hd 4 (by kernel_rfl)
      have o3 := wants_done hc 10 4 3 (by kernel_rfl) o4
      have h7 : L 7 = false := wants_back hc 10 7 5 (by kernel_rfl) hi
      have hbW := hg.1 hi
      intro K hK
      refine wp_appendO B V _ _ rfl (.slice ta os.length tc) os.length rows.flatten o.kind o.key o.value la o.list.length lc o.has o.nl (show val 1 = _ from h1) nb (show val 4 = _ from q2) q3 (OUTB.out V hbW).own (Nat.le_trans HB1.out hbW.size) (by omega) (fun g cap V' ho hgr hat => ?_)
      have hbb : Below B V V' := (Below.refl B V).grown hgr (Nat.le_trans HB1.out hbW.size) (fun b c => (OUT.out.own.lt b c).1)
      refine hK _ V' (fun _ => ⟨_, OUT.out.grow (fun _ _ _ _ _ _ h => h.keep) HB1.out nBB hbW (row := [.int .i64 o.kind, .string o.key, .int .i64 o.value, .slice la o.list.length lc, .bool o.has, .bool o.nl]) (x := o) ⟨_, rfl, q4⟩ rfl ho hgr hat, hbb.os.trans hbW.os, hbb.tape.trans hbW.tape, hbb.output.trans hbW.output, Nat.le_trans hbW.size hbb.size, fun b hb hn => (hbb.block b hb).trans (hbW.block b (Nat.lt_of_lt_of_le hb HB1.out) hn)⟩) ⟨fun c => (by rw [upB_self] at c; cases c), fun c => (by rw [show upB L 5 3 = L 3 from rfl, o3] at c; cases c), fun _ => (hg.2.2.1 o3).keep (hbb.mono nBB), fun c => (by rw [show upB L 5 7 = L 7 from rfl, h7] at c; cases c)⟩ ?_
      intro j u hj hr
      match j, hj, hr with
      | 0, _, hr => exact hr
      | 1, _, hr => exact hr
      | 2, _, hr => exact hr
      | 3, hj, hr => exact hr.imp fun la hr => hr.imp fun lc hr => ⟨hr.1, fun c => (by rw [upB_self] at c; cases c)⟩
      | 4, hj, hr => exact fun c => (by rw [upB_self] at c; cases c)
      | 5, hj, hr => rw [hi] at hj; cases hj
      | 6, _, hr => exact hr
      | 7, _, hr => trivial
      | _ + 8, _, hr => trivial
    · refine gen_plain rfl (fun _ _ => rfl) (fun L val V hc hi hu hg hd => ?_)
      refine gdoes_value (v := .pointer (some ⟨eb, 2, none⟩)) ?_ rfl hg (fun j u hj hr => hr)
      simp [execOp, Act.eval, go_sem]
    · refine gen_plain rfl (fun _ _ => rfl) (fun L val V hc hi hu hg hd => ?_)
      have h6 : val 6 = .pointer (some ⟨eb, 2, none⟩) := depsG_get hd 6 (by kernel_rfl)
      have o5 := depsG_on hd 5 (by kernel_rfl)
      have o3 := wants_done hc 10 5 3 (by kernel_rfl) o5
      have hA := depsG_get hd 5 (by kernel_rfl) hi
      obtain ⟨ya, yc, hy⟩ := hA.choose_spec.1.sliceV
      have p2 := hg.2.2.1 o3
      rw [hy] at hA
      have nb := hA.choose_spec.2
      have ep := nb.block eb nE2 nE1
      have e0 : V.cell? ⟨eb, 2, none⟩ = some (.slice ta os.length tc) := (World.cell?_of_block (w := W) ep).trans x2
      have e1 : V.frozen? ⟨eb, 2, none⟩ = false := (show V.frozen? ⟨eb, 2, none⟩ = W.frozen? ⟨eb, 2, none⟩ by unfold World.frozen?; rw [ep]).trans ER0.out.ec.z2
      obtain ⟨rows2, es⟩ := ER0.out.final hA p2 nA2 nE2 nA1 nE1 nEA nXE nWE nWB
      refine gdoes_skip (w' := V.setCell ⟨eb, 2, none⟩ (.slice ya (os.length + 1) yc)) ?_ trivial ⟨fun c => (by rw [show upB L 7 5 = L 5 from rfl, o5] at c; cases c), fun c => (by rw [show upB L 7 3 = L 3 from rfl, o3] at c; cases c), fun _ => rs_set p2 nXE _, fun _ => ⟨ya, yc, rows2, es⟩⟩ ?_
      · simp [execOp, Act.eval, go_sem, h6, hy, e0, e1]
      · intro j u hj hr
        match j, hj, hr with
        | 0, _, hr => exact hr
        | 1, _, hr => exact hr
        | 2, _, hr => exact hr
        | 3, hj, hr => exact hr.imp fun la hr => hr.imp fun lc hr => ⟨hr.1, fun c => (by rw [show upB L 7 5 = L 5 from rfl, o5] at c; cases c)⟩
        | 4, hj, hr => exact fun c => (by rw [show upB L 7 5 = L 5 from rfl, o5] at c; cases c)
        | 5, hj, hr => exact fun c => (by rw [upB_self] at c; cases c)
        | 6, _, hr => exact hr
        | 7, hj, hr => trivial
        | _ + 8, _, hr => trivial
    intro L val V hL hg hR
    obtain ⟨ya, yc, rows5, ES5⟩ := hg.2.2.2 (hL 7 (by decide))
    have HE5 : Hid (rEv en r = ((k, p, (rOps en 10 r2 (os ++ [o])).1), rEnd en (rOps en 10 r2 (os ++ [o])).2)) := by show _ = _; rw [HE.out, hos, ho, hr2]; rfl
    have E5H := hid ES5
    have hlen5 : Hid ((os ++ [o]).length = 1) := by show _ = _; rw [hos]; rfl
    clear hg hR hL ES5 OPC x2 EL RSD OUTB OUT HB1 ER0 HE hos8 E3
    go_wp2_with fail
    go_loopg [44] 10 (fun gm _ wr => ∃ (rr6 : Rd) (os6 : List MOp) (ya6 : Option Addr) (yc6 : Nat) (rows6 : List (List Value)), 10 - os6.length ≤ gm ∧ os6.length ≤ 9 ∧ Aside (os6.length = 9 → rr6.2 ≠ none) ∧ Aside (ER bx ab eb B en w k p rr6 os6 wr (.slice ya6 os6.length yc6) rows6) ∧ Aside (rEv en r = ((k, p, (rOps en (11 - os6.length) rr6 os6).1), rEnd en (rOps en (11 - os6.length) rr6 os6).2)))
    case atStart => exact ⟨r2, os ++ [o], ya, yc, rows5, by omega, by have := hlen5.out; omega, by show _ → _; intro c; have := hlen5.out; omega, E5H.out, by show _ = _; rw [hlen5.out]; exact HE5.out⟩
    case round =>
      clear E5H HE5 hlen5 hos hrows hta htc hrr ho hr2
      clear os rows ta tc o rr r2
      obtain ⟨rr, os, ta, tc, rows, hgm, h9le, H9, ER0, HE4⟩ := hrel
      obtain ⟨f0, hf0⟩ : ∃ f0, 11 - os.length = f0 + 1 := ⟨10 - os.length, by omega⟩
      rw [hf0] at HE4
      have HF0 := hid hf0
      clear hf0
      cases hs : rIs rr 3 ⟨#[91]⟩ with
      | true =>
        have h8le : os.length ≤ 8 := by
          by_cases h9 : os.length = 9
          · obtain ⟨t, l, hrr, _⟩ := rIs_true hs
            have hq := H9.out h9
            rw [hrr] at hq
            exact absurd rfl hq
          · omega
        have hmore := hid (rOps_more (en := en) (f := f0) (os := os) hs)
        have x2a := ER0.out.ec.c2
        go_wp2_with fail
        go_at_call 17
        refine (is_any _ _ _ _ _ _ ER0.out.rs).mono ?_
        rintro e w' ⟨rfl, rfl⟩
        rw [hs]
        by_cases h8 : os.length = 8
        · have h8i : ((os.length : Int) == 8) = true := by rw [h8]; rfl
          rw [if_pos h8] at hmore
          go_wp2_with fail
          go_at_call 19
          refine (fail_any bx en 4 rr _ ER0.out.rs).mono ?_
          rintro e W ⟨rfl, h6, b6⟩
          have ERa := hid (ER0.out.beside b6 h6 nA1 nE1 nBB)
          have HBAD : Hid (∃ l e, rFail en 4 rr = (l, some e)) := by
            obtain ⟨t, l, hrr, _⟩ := rIs_true hs
            exact ⟨t :: l, _, by rw [hrr]; rfl⟩
          clear h6 b6 ER0 x2a hs
          have ER0 := ERa
          clear ERa
          generalize rFail en 4 rr = rn at ER0 hmore HBAD
          go_wp2_with fail
          have HB1 : Hid (B ≤ W.heap.size) := ER0.out.size
          have OUT := hid ER0.out.out
          have OUTB : Hid (∀ V, Beside bx W V → OutInv 74 6 OpRow B V (.slice ta os.length tc) os.length rows os) := fun V hb => ER0.out.out.beside (fun _ _ _ _ _ _ h => h.keep) hb nBB
          have x2 := ER0.out.ec.c2
          have EL := hid ER0.out.ec.lt
          have RSD : Hid (RS bx en W.drew rn) := ER0.out.rs.keep (below_drew1 (Below.refl _ _))
          obtain ⟨q7, e7⟩ : ∃ q7, rOp en rn = q7 := ⟨_, rfl⟩
          obtain ⟨o, r2⟩ := q7
          have OPC : Hid (∀ V, RS bx en V rn → Calls Tryz.prog 44 #[.pointer (some ⟨bx, 0, none⟩)] V (OpPost bx en V o r2)) := fun V hV => by have q := rop_any bx en rn V hV; rw [e7] at q; exact q
          rw [e7] at hmore
          have HE5 : Hid (rEv en r = ((k, p, (rOps en f0 r2 (os ++ [o])).1), rEnd en (rOps en f0 r2 (os ++ [o])).2)) := by show _ = _; rw [HE4.out, hmore.out]
          have HB2 : Hid ((∃ l e, rn = (l, some e)) → r2.2 ≠ none) := by
            rintro ⟨l, e, rfl⟩
            have q := rOp_st (en := en) (l := l) (e := e)
            rw [e7] at q
            simp only at q
            rw [q]
            simp
          clear e7
          refine wp_region_gen Tryz.mixedOrders (by kernel_rfl) (fun val => { tmps := #[_, _, _, _, _, _, _, _, _, _, _, _, _, _, _, _, _, _, _, _, _, _, _, _, _, _, _, _, _, _, _, _, _, _, _, _, _, _, _, _, _, _, _, _, _, _, _, _, _, _, _, val 0, val 1, val 2, val 3, val 4, val 5, val 6, _, _, _, _, _, _, _, _, _], defers := [] }) (fun i => match i with | 0 => u51 | 1 => u52 | 2 => u53 | 3 => u54 | 4 => u55 | 5 => u56 | 6 => u57 | 7 => undef | _ => undef) rfl (fun L V => (L 5 = false → Beside bx W V) ∧ (L 3 = false → RS bx en V rn) ∧ (L 3 = true → RS bx en V r2) ∧ (L 7 = true → ∃ ya yc rows2, ER bx ab eb B en w k p r2 (os ++ [o]) V (.slice ya (os ++ [o]).length yc) rows2)) (fun L i y V => match i with | 0 => y = .pointer (some ⟨eb, 2, none⟩) | 1 => y = .slice ta os.length tc | 2 => y = .pointer (some ⟨bx, 0, none⟩) | 3 => ∃ la lc, y = .agg #[.int .i64 o.kind, .string o.key, .int .i64 o.value, .slice la o.list.length lc, .bool o.has, .bool o.nl] ∧ (L 5 = false → IntsIn (fun b => W.heap.size ≤ b) V (.slice la o.list.length lc) o.list) | 4 => L 5 = false → ∃ nb la lc, W.heap.size ≤ nb ∧ y = .slice (some ⟨nb, 0, none⟩) 1 1 ∧ V.heap[nb]? = some (.cells #[.int .i64 o.kind, .string o.key, .int .i64 o.value, .slice la o.list.length lc, .bool o.has, .bool o.nl] 74) ∧ IntsIn (fun b => W.heap.size ≤ b) V (.slice la o.list.length lc) o.list | 5 => L 7 = false → AppO bx B W V os o y | 6 => y = .pointer (some ⟨eb, 2, none⟩) | 7 => True | _ => True) ⟨fun _ => be_drew (Beside.refl bx W), fun _ => RSD.out, fun c => (by cases c), fun c => (by cases c)⟩ _ rfl ⟨?_, ?_, ?_, ?_, ?_, ?_, ?_, ?_, trivial⟩ ?_
          · refine gen_plain rfl (fun _ _ => rfl) (fun L val V hc hi hu hg hd => ?_)
            refine gdoes_value (v := .pointer (some ⟨eb, 2, none⟩)) ?_ rfl hg (fun j u hj hr => hr)
            simp [execOp, Act.eval, go_sem]
          · refine gen_plain rfl (fun _ _ => rfl) (fun L val V hc hi hu hg hd => ?_)
            have h0 : val 0 = .pointer (some ⟨eb, 2, none⟩) := depsG_get hd 0 (by kernel_rfl)
            have h5 : L 5 = false := wants_back hc 10 5 1 (by kernel_rfl) hi
            have e2 : V.cell? ⟨eb, 2, none⟩ = some (.slice ta os.length tc) := ((hg.1 h5).cell (p := ⟨eb, 2, none⟩) EL.out nE1).trans x2
            refine gdoes_value (v := .slice ta os.length tc) ?_ rfl hg (fun j u hj hr => hr)
            simp [execOp, Act.eval, go_sem, h0, e2]
          · refine gen_plain rfl (fun _ _ => rfl) (fun L val V hc hi hu hg hd => ?_)
            refine gdoes_value (v := .pointer (some ⟨bx, 0, none⟩)) ?_ rfl hg (fun j u hj hr => hr)
            simp [execOp, Act.eval, go_sem]
          · refine gen_plain rfl (fun _ _ => rfl) (fun L val V hc hi hu hg hd => ?_)
            have h2 : val 2 = .pointer (some ⟨bx, 0, none⟩) := depsG_get hd 2 (by kernel_rfl)
            have h5 : L 5 = false := wants_back hc 10 5 3 (by kernel_rfl) hi
            have h7 : L 7 = false := wants_back hc 10 7 3 (by kernel_rfl) hi
            have hbW := hg.1 h5
            refine gdoes_call (f := 44) (args := #[.pointer (some ⟨bx, 0, none⟩)]) ?_ (OPC.out V (hg.2.1 hi)) ?_
            · simp [execOp, Act.eval, go_sem, resolve, invoke, h2]
            · rintro e w' ⟨lv, rfl, hi2, hr2, hb3⟩
              obtain ⟨la, lc, rfl, hi3⟩ := id hi2
              refine ⟨_, rfl, ⟨la, lc, rfl, fun _ => hi2.keep (fun _ _ _ => rfl) (fun b _ hb => Nat.le_trans hbW.size hb)⟩, ⟨fun _ => hbW.trans hb3, fun c => (by rw [upB_self] at c; cases c), fun _ => hr2, fun c => (by rw [show upB L 3 7 = L 7 from rfl, h7] at c; cases c)⟩, ?_⟩
              intro j u hj hr
              match j, hj, hr with
              | 0, _, hr => exact hr
              | 1, _, hr => exact hr
              | 2, _, hr => exact hr
              | 3, hj, hr => rw [hi] at hj; cases hj
              | 4, hj, hr => rw [wants_back hc 10 4 3 (by kernel_rfl) hi] at hj; cases hj
              | 5, hj, hr => rw [h5] at hj; cases hj
              | 6, _, hr => exact hr
              | 7, _, hr => trivial
              | _ + 8, _, hr => trivial
          · refine gen_plain rfl (fun _ _ => rfl) (fun L val V hc hi hu hg hd => ?_)
            obtain ⟨la, lc, h3, ho⟩ := depsG_get hd 3 (by kernel_rfl)
            have o3 := depsG_on hd 3 (by kernel_rfl)
            have h5 : L 5 = false := wants_back hc 10 5 4 (by kernel_rfl) hi
            have h7 : L 7 = false := wants_back hc 10 7 4 (by kernel_rfl) hi
            have hbW := hg.1 h5
            have hbv : Below V.heap.size V (V.alloc (.cells #[.int .i64 o.kind, .string o.key, .int .i64 o.value, .slice la o.list.length lc, .bool o.has, .bool o.nl] 74)) := below_box V _
            refine gdoes_turn (v := .slice (some ⟨V.heap.size, 0, none⟩) 1 1) (w' := V.alloc (.cells #[.int .i64 o.kind, .string o.key, .int .i64 o.value, .slice la o.list.length lc, .bool o.has, .bool o.nl] 74)) ?_ (fun _ => ⟨V.heap.size, la, lc, hbW.size, rfl, heap_alloc_new V _, (ho h5).keep (keeps_below hbv) (fun _ _ h => h)⟩) ⟨fun _ => hbW.trans (Beside.of_below hbv), fun c => (by rw [show upB L 4 3 = L 3 from rfl, o3] at c; cases c), fun _ => rs_new (hg.2.2.1 o3) _, fun c => (by rw [show upB L 4 7 = L 7 from rfl, h7] at c; cases c)⟩ ?_
            · simp [execOp, Act.eval, go_sem, h3]
            · intro j u hj hr
              match j, hj, hr with
              | 0, _, hr => exact hr
              | 1, _, hr => exact hr
              | 2, _, hr => exact hr
              | 3, hj, hr => exact hr.imp fun la hr => hr.imp fun lc hr => ⟨hr.1, fun c => (hr.2 h5).keep (keeps_below hbv) (fun _ _ h => h)⟩
              | 4, hj, hr => rw [hi] at hj; cases hj
              | 5, hj, hr => rw [h5] at hj; cases hj
              | 6, _, hr => exact hr
              | 7, _, hr => trivial
              | _ + 8, _, hr => trivial
          · refine gen_plain rfl (fun _ _ => rfl) (fun L val V hc hi hu hg hd => ?_)
            have h1 : val 1 = .slice ta os.length tc := depsG_get hd 1 (by kernel_rfl)
            obtain ⟨nb, la, lc, q1, q2, q3, q4⟩ := depsG_get hd 4 (by kernel_rfl) hi
            have o4 := depsG_on hd 4 (by kernel_rfl)
            have o3 := wants_done hc 10 4 3 (by kernel_rfl) o4
            have h7 : L 7 = false := wants_back hc 10 7 5 (by kernel_rfl) hi
            have hbW := hg.1 hi
            intro K hK
            refine wp_appendO B V _ _ rfl (.slice ta os.length tc) os.length rows.flatten o.kind o.key o.value la o.list.length lc o.has o.nl (show val 1 = _ from h1) nb (show val 4 = _ from q2) q3 (OUTB.out V hbW).own (Nat.le_trans HB1.out hbW.size) (by omega) (fun g cap V' ho hgr hat => ?_)
            have hbb : Below B V V' := (Below.refl B V).grown hgr (Nat.le_trans HB1.out hbW.size) (fun b c => (OUT.out.own.lt b c).1)
            refine hK _ V' (fun _ => ⟨_, OUT.out.grow (fun _ _ _ _ _ _ h => h.keep) HB1.out nBB hbW (row := [.int .i64 o.kind, .string o.key, .int .i64 o.value, .slice la o.list.length lc, .bool o.has, .bool o.nl]) (x := o) ⟨_, rfl, q4⟩ rfl ho hgr hat, hbb.os.trans hbW.os, hbb.tape.trans hbW.tape, hbb.output.trans hbW.output, Nat.le_trans hbW.size hbb.size, fun b hb hn => (hbb.block b hb).trans (hbW.block b (Nat.lt_of_lt_of_le hb HB1.out) hn)⟩) ⟨fun c => (by rw [upB_self] at c; cases c), fun c => (by rw [show upB L 5 3 = L 3 from rfl, o3] at c; cases c), fun _ => (hg.2.2.1 o3).keep (hbb.mono nBB), fun c => (by rw [show upB L 5 7 = L 7 from rfl, h7] at c; cases c)⟩ ?_
            intro j u hj hr
            match j, hj, hr with
            | 0, _, hr => exact hr
            | 1, _, hr => exact hr
            | 2, _, hr => exact hr
            | 3, hj, hr => exact hr.imp fun la hr => hr.imp fun lc hr => ⟨hr.1, fun c => (by rw [upB_self] at c; cases c)⟩
            | 4, hj, hr => exact fun c => (by rw [upB_self] at c; cases c)
            | 5, hj, hr => rw [hi] at hj; cases hj
            | 6, _, hr => exact hr
            | 7, _, hr => trivial
            | _ + 8, _, hr => trivial
          · refine gen_plain rfl (fun _ _ => rfl) (fun L val V hc hi hu hg hd => ?_)
            refine gdoes_value (v := .pointer (some ⟨eb, 2, none⟩)) ?_ rfl hg (fun j u hj hr => hr)
            simp [execOp, Act.eval, go_sem]
          · refine gen_plain rfl (fun _ _ => rfl) (fun L val V hc hi hu hg hd => ?_)
            have h6 : val 6 = .pointer (some ⟨eb, 2, none⟩) := depsG_get hd 6 (by kernel_rfl)
            have o5 := depsG_on hd 5 (by kernel_rfl)
            have o3 := wants_done hc 10 5 3 (by kernel_rfl) o5
            have hA := depsG_get hd 5 (by kernel_rfl) hi
            obtain ⟨ya, yc, hy⟩ := hA.choose_spec.1.sliceV
            have p2 := hg.2.2.1 o3
            rw [hy] at hA
            have nb := hA.choose_spec.2
            have ep := nb.block eb nE2 nE1
            have e0 : V.cell? ⟨eb, 2, none⟩ = some (.slice ta os.length tc) := (World.cell?_of_block (w := W) ep).trans x2
            have e1 : V.frozen? ⟨eb, 2, none⟩ = false := (show V.frozen? ⟨eb, 2, none⟩ = W.frozen? ⟨eb, 2, none⟩ by unfold World.frozen?; rw [ep]).trans ER0.out.ec.z2
            obtain ⟨rows2, es⟩ := ER0.out.final hA p2 nA2 nE2 nA1 nE1 nEA nXE nWE nWB
            refine gdoes_skip (w' := V.setCell ⟨eb, 2, none⟩ (.slice ya (os.length + 1) yc)) ?_ trivial ⟨fun c => (by rw [show upB L 7 5 = L 5 from rfl, o5] at c; cases c), fun c => (by rw [show upB L 7 3 = L 3 from rfl, o3] at c; cases c), fun _ => rs_set p2 nXE _, fun _ => ⟨ya, yc, rows2, es⟩⟩ ?_
            · simp [execOp, Act.eval, go_sem, h6, hy, e0, e1]
            · intro j u hj hr
              match j, hj, hr with
              | 0, _, hr => exact hr
              | 1, _, hr => exact hr
              | 2, _, hr => exact hr
              | 3, hj, hr => exact hr.imp fun la hr => hr.imp fun lc hr => ⟨hr.1, fun c => (by rw [show upB L 7 5 = L 5 from rfl, o5] at c; cases c)⟩
              | 4, hj, hr => exact fun c => (by rw [show upB L 7 5 = L 5 from rfl, o5] at c; cases c)
              | 5, hj, hr => exact fun c => (by rw [upB_self] at c; cases c)
              | 6, _, hr => exact hr
              | 7, hj, hr => trivial
              | _ + 8, _, hr => trivial
          intro L val V hL hg hR
          obtain ⟨ya, yc, rows5, ES5⟩ := hg.2.2.2 (hL 7 (by decide))
          have E5H := hid ES5
          have hlen5 : Hid ((os ++ [o]).length = os.length + 1) := by show _ = _; simp
          clear hg hR hL ES5 OPC x2 EL RSD OUTB OUT HB1 ER0 HE4
          go_wp2_with fail
          have hl5 := hlen5.out
          have hf5 := HF0.out
          go_roundg (10 - (os ++ [o]).length)
          case measure => omega
          case rel => exact ⟨r2, os ++ [o], ya, yc, rows5, Nat.le_refl _, by omega, by show _ → _; intro _; exact HB2.out HBAD.out, E5H.out, by show _ = _; rw [HE5.out, show 11 - (os ++ [o]).length = f0 by omega]⟩
        · have h8i : ((os.length : Int) == 8) = false := by rw [beq_eq_false_iff_ne]; omega
          rw [if_neg h8] at hmore
          go_wp2_with fail
          clear x2a
          obtain ⟨W, hW⟩ : ∃ W, W = wr := ⟨_, rfl⟩
          rw [← hW] at ER0 ⊢
          clear hW
          have HB1 : Hid (B ≤ W.heap.size) := ER0.out.size
          have OUT := hid ER0.out.out
          have OUTB : Hid (∀ V, Beside bx W V → OutInv 74 6 OpRow B V (.slice ta os.length tc) os.length rows os) := fun V hb => ER0.out.out.beside (fun _ _ _ _ _ _ h => h.keep) hb nBB
          have x2 := ER0.out.ec.c2
          have EL := hid ER0.out.ec.lt
          have RSD : Hid (RS bx en W.drew rr) := ER0.out.rs.keep (below_drew1 (Below.refl _ _))
          obtain ⟨q7, e7⟩ : ∃ q7, rOp en rr = q7 := ⟨_, rfl⟩
          obtain ⟨o, r2⟩ := q7
          have OPC : Hid (∀ V, RS bx en V rr → Calls Tryz.prog 44 #[.pointer (some ⟨bx, 0, none⟩)] V (OpPost bx en V o r2)) := fun V hV => by have q := rop_any bx en rr V hV; rw [e7] at q; exact q
          rw [e7] at hmore
          have HE5 : Hid (rEv en r = ((k, p, (rOps en f0 r2 (os ++ [o])).1), rEnd en (rOps en f0 r2 (os ++ [o])).2)) := by show _ = _; rw [HE4.out, hmore.out]
          have HB2 : Hid ((∃ l e, rr = (l, some e)) → r2.2 ≠ none) := by
            rintro ⟨l, e, rfl⟩
            have q := rOp_st (en := en) (l := l) (e := e)
            rw [e7] at q
            simp only at q
            rw [q]
            simp
          clear e7
          refine wp_region_gen Tryz.mixedOrders (by kernel_rfl) (fun val => { tmps := #[_, _, _, _, _, _, _, _, _, _, _, _, _, _, _, _, _, _, _, _, _, _, _, _, _, _, _, _, _, _, _, _, _, _, _, _, _, _, _, _, _, _, _, _, _, _, _, _, _, _, _, val 0, val 1, val 2, val 3, val 4, val 5, val 6, _, _, _, _, _, _, _, _, _], defers := [] }) (fun i => match i with | 0 => u51 | 1 => u52 | 2 => u53 | 3 => u54 | 4 => u55 | 5 => u56 | 6 => u57 | 7 => undef | _ => undef) rfl (fun L V => (L 5 = false → Beside bx W V) ∧ (L 3 = false → RS bx en V rr) ∧ (L 3 = true → RS bx en V r2) ∧ (L 7 = true → ∃ ya yc rows2, ER bx ab eb B en w k p r2 (os ++ [o]) V (.slice ya (os ++ [o]).length yc) rows2)) (fun L i y V => match i with | 0 => y = .pointer (some ⟨eb, 2, none⟩) | 1 => y = .slice ta os.length tc | 2 => y = .pointer (some ⟨bx, 0, none⟩) | 3 => ∃ la lc, y = .agg #[.int .i64 o.kind, .string o.key, .int .i64 o.value, .slice la o.list.length lc, .bool o.has, .bool o.nl] ∧ (L 5 = false → IntsIn (fun b => W.heap.size ≤ b) V (.slice la o.list.length lc) o.list) | 4 => L 5 = false → ∃ nb la lc, W.heap.size ≤ nb ∧ y = .slice (some ⟨nb, 0, none⟩) 1 1 ∧ V.heap[nb]? = some (.cells #[.int .i64 o.kind, .string o.key, .int .i64 o.value, .slice la o.list.length lc, .bool o.has, .bool o.nl] 74) ∧ IntsIn (fun b => W.heap.size ≤ b) V (.slice la o.list.length lc) o.list | 5 => L 7 = false → AppO bx B W V os o y | 6 => y = .pointer (some ⟨eb, 2, none⟩) | 7 => True | _ => True) ⟨fun _ => be_drew (Beside.refl bx W), fun _ => RSD.out, fun c => (by cases c), fun c => (by cases c)⟩ _ rfl ⟨?_, ?_, ?_, ?_, ?_, ?_, ?_, ?_, trivial⟩ ?_
          · refine gen_plain rfl (fun _ _ => rfl) (fun L val V hc hi hu hg hd => ?_)
            refine gdoes_value (v := .pointer (some ⟨eb, 2, none⟩)) ?_ rfl hg (fun j u hj hr => hr)
            simp [execOp, Act.eval, go_sem]
          · refine gen_plain rfl (fun _ _ => rfl) (fun L val V hc hi hu hg hd => ?_)
            have h0 : val 0 = .pointer (some ⟨eb, 2, none⟩) := depsG_get hd 0 (by kernel_rfl)
            have h5 : L 5 = false := wants_back hc 10 5 1 (by kernel_rfl) hi
            have e2 : V.cell? ⟨eb, 2, none⟩ = some (.slice ta os.length tc) := ((hg.1 h5).cell (p := ⟨eb, 2, none⟩) EL.out nE1).trans x2
            refine gdoes_value (v := .slice ta os.length tc) ?_ rfl hg (fun j u hj hr => hr)
            simp [execOp, Act.eval, go_sem, h0, e2]
          · refine gen_plain rfl (fun _ _ => rfl) (fun L val V hc hi hu hg hd => ?_)
            refine gdoes_value (v := .pointer (some ⟨bx, 0, none⟩)) ?_ rfl hg (fun j u hj hr => hr)
            simp [execOp, Act.eval, go_sem]
          · refine gen_plain rfl (fun _ _ => rfl) (fun L val V hc hi hu hg hd => ?_)
            have h2 : val 2 = .pointer (some ⟨bx, 0, none⟩) := depsG_get hd 2 (by kernel_rfl)
            have h5 : L 5 = false := wants_back hc 10 5 3 (by kernel_rfl) hi
            have h7 : L 7 = false := wants_back hc 10 7 3 (by kernel_rfl) hi
            have hbW := hg.1 h5
            refine gdoes_call (f := 44) (args := #[.pointer (some ⟨bx, 0, none⟩)]) ?_ (OPC.out V (hg.2.1 hi)) ?_
            · simp [execOp, Act.eval, go_sem, resolve, invoke, h2]
            · rintro e w' ⟨lv, rfl, hi2, hr2, hb3⟩
              obtain ⟨la, lc, rfl, hi3⟩ := id hi2
              refine ⟨_, rfl, ⟨la, lc, rfl, fun _ => hi2.keep (fun _ _ _ => rfl) (fun b _ hb => Nat.le_trans hbW.size hb)⟩, ⟨fun _ => hbW.trans hb3, fun c => (by rw [upB_self] at c; cases c), fun _ => hr2, fun c => (by rw [show upB L 3 7 = L 7 from rfl, h7] at c; cases c)⟩, ?_⟩
              intro j u hj hr
              match j, hj, hr with
              | 0, _, hr => exact hr
              | 1, _, hr => exact hr
              | 2, _, hr => exact hr
              | 3, hj, hr => rw [hi] at hj; cases hj
              | 4, hj, hr => rw [wants_back hc 10 4 3 (by kernel_rfl) hi] at hj; cases hj
              | 5, hj, hr => rw [h5] at hj; cases hj
              | 6, _, hr => exact hr
              | 7, _, hr => trivial
              | _ + 8, _, hr => trivial
          · refine gen_plain rfl (fun _ _ => rfl) (fun L val V hc hi hu hg hd => ?_)
            obtain ⟨la, lc, h3, ho⟩ := depsG_get hd 3 (by kernel_rfl)
            have o3 := depsG_on hd 3 (by kernel_rfl)
            have h5 : L 5 = false := wants_back hc 10 5 4 (by kernel_rfl) hi
            have h7 : L 7 = false := wants_back hc 10 7 4 (by kernel_rfl) hi
            have hbW := hg.1 h5
            have hbv : Below V.heap.size V (V.alloc (.cells #[.int .i64 o.kind, .string o.key, .int .i64 o.value, .slice la o.list.length lc, .bool o.has, .bool o.nl] 74)) := below_box V _
            refine gdoes_turn (v := .slice (some ⟨V.heap.size, 0, none⟩) 1 1) (w' := V.alloc (.cells #[.int .i64 o.kind, .string o.key, .int .i64 o.value, .slice la o.list.length lc, .bool o.has, .bool o.nl] 74)) ?_ (fun _ => ⟨V.heap.size, la, lc, hbW.size, rfl, heap_alloc_new V _, (ho h5).keep (keeps_below hbv) (fun _ _ h => h)⟩) ⟨fun _ => hbW.trans (Beside.of_below hbv), fun c => (by rw [show upB L 4 3 = L 3 from rfl, o3] at c; cases c), fun _ => rs_new (hg.2.2.1 o3) _, fun c => (by rw [show upB L 4 7 = L 7 from rfl, h7] at c; cases c)⟩ ?_
            · simp [execOp, Act.eval, go_sem, h3]
            · intro j u hj hr
              match j, hj, hr with
              | 0, _, hr => exact hr
              | 1, _, hr => exact hr
              | 2, _, hr => exact hr
              | 3, hj, hr => exact hr.imp fun la hr => hr.imp fun lc hr => ⟨hr.1, fun c => (hr.2 h5).keep (keeps_below hbv) (fun _ _ h => h)⟩
              | 4, hj, hr => rw [hi] at hj; cases hj
              | 5, hj, hr => rw [h5] at hj; cases hj
              | 6, _, hr => exact hr
              | 7, _, hr => trivial
              | _ + 8, _, hr => trivial
          · refine gen_plain rfl (fun _ _ => rfl) (fun L val V hc hi hu hg hd => ?_)
            have h1 : val 1 = .slice ta os.length tc := depsG_get hd 1 (by kernel_rfl)
            obtain ⟨nb, la, lc, q1, q2, q3, q4⟩ := depsG_get hd 4 (by kernel_rfl) hi
            have o4 := depsG_on hd 4 (by kernel_rfl)
            have o3 := wants_done hc 10 4 3 (by kernel_rfl) o4
            have h7 : L 7 = false := wants_back hc 10 7 5 (by kernel_rfl) hi
            have hbW := hg.1 hi
            intro K hK
            refine wp_appendO B V _ _ rfl (.slice ta os.length tc) os.length rows.flatten o.kind o.key o.value la o.list.length lc o.has o.nl (show val 1 = _ from h1) nb (show val 4 = _ from q2) q3 (OUTB.out V hbW).own (Nat.le_trans HB1.out hbW.size) (by omega) (fun g cap V' ho hgr hat => ?_)
            have hbb : Below B V V' := (Below.refl B V).grown hgr (Nat.le_trans HB1.out hbW.size) (fun b c => (OUT.out.own.lt b c).1)
            refine hK _ V' (fun _ => ⟨_, OUT.out.grow (fun _ _ _ _ _ _ h => h.keep) HB1.out nBB hbW (row := [.int .i64 o.kind, .string o.key, .int .i64 o.value, .slice la o.list.length lc, .bool o.has, .bool o.nl]) (x := o) ⟨_, rfl, q4⟩ rfl ho hgr hat, hbb.os.trans hbW.os, hbb.tape.trans hbW.tape, hbb.output.trans hbW.output, Nat.le_trans hbW.size hbb.size, fun b hb hn => (hbb.block b hb).trans (hbW.block b (Nat.lt_of_lt_of_le hb HB1.out) hn)⟩) ⟨fun c => (by rw [upB_self] at c; cases c), fun c => (by rw [show upB L 5 3 = L 3 from rfl, o3] at c; cases c), fun _ => (hg.2.2.1 o3).keep (hbb.mono nBB), fun c => (by rw [show upB L 5 7 = L 7 from rfl, h7] at c; cases c)⟩ ?_
            intro j u hj hr
            match j, hj, hr with
            | 0, _, hr => exact hr
            | 1, _, hr => exact hr
            | 2, _, hr => exact hr
            | 3, hj, hr => exact hr.imp fun la hr => hr.imp fun lc hr => ⟨hr.1, fun c => (by rw [upB_self] at c; cases c)⟩
            | 4, hj, hr => exact fun c => (by rw [upB_self] at c; cases c)
            | 5, hj, hr => rw [hi] at hj; cases hj
            | 6, _, hr => exact hr
            | 7, _, hr => trivial
            | _ + 8, _, hr => trivial
          · refine gen_plain rfl (fun _ _ => rfl) (fun L val V hc hi hu hg hd => ?_)
            refine gdoes_value (v := .pointer (some ⟨eb, 2, none⟩)) ?_ rfl hg (fun j u hj hr => hr)
            simp [execOp, Act.eval, go_sem]
          · refine gen_plain rfl (fun _ _ => rfl) (fun L val V hc hi hu hg hd => ?_)
            have h6 : val 6 = .pointer (some ⟨eb, 2, none⟩) := depsG_get hd 6 (by kernel_rfl)
            have o5 := depsG_on hd 5 (by kernel_rfl)
            have o3 := wants_done hc 10 5 3 (by kernel_rfl) o5
            have hA := depsG_get hd 5 (by kernel_rfl) hi
            obtain ⟨ya, yc, hy⟩ := hA.choose_spec.1.sliceV
            have p2 := hg.2.2.1 o3
            rw [hy] at hA
            have nb := hA.choose_spec.2
            have ep := nb.block eb nE2 nE1
            have e0 : V.cell? ⟨eb, 2, none⟩ = some (.slice ta os.length tc) := (World.cell?_of_block (w := W) ep).trans x2
            have e1 : V.frozen? ⟨eb, 2, none⟩ = false := (show V.frozen? ⟨eb, 2, none⟩ = W.frozen? ⟨eb, 2, none⟩ by unfold World.frozen?; rw [ep]).trans ER0.out.ec.z2
            obtain ⟨rows2, es⟩ := ER0.out.final hA p2 nA2 nE2 nA1 nE1 nEA nXE nWE nWB
            refine gdoes_skip (w' := V.setCell ⟨eb, 2, none⟩ (.slice ya (os.length + 1) yc)) ?_ trivial ⟨fun c => (by rw [show upB L 7 5 = L 5 from rfl, o5] at c; cases c), fun c => (by rw [show upB L 7 3 = L 3 from rfl, o3] at c; cases c), fun _ => rs_set p2 nXE _, fun _ => ⟨ya, yc, rows2, es⟩⟩ ?_
            · simp [execOp, Act.eval, go_sem, h6, hy, e0, e1]
            · intro j u hj hr
              match j, hj, hr with
              | 0, _, hr => exact hr
              | 1, _, hr => exact hr
              | 2, _, hr => exact hr
              | 3, hj, hr => exact hr.imp fun la hr => hr.imp fun lc hr => ⟨hr.1, fun c => (by rw [show upB L 7 5 = L 5 from rfl, o5] at c; cases c)⟩
              | 4, hj, hr => exact fun c => (by rw [show upB L 7 5 = L 5 from rfl, o5] at c; cases c)
              | 5, hj, hr => exact fun c => (by rw [upB_self] at c; cases c)
              | 6, _, hr => exact hr
              | 7, hj, hr => trivial
              | _ + 8, _, hr => trivial
          intro L val V hL hg hR
          obtain ⟨ya, yc, rows5, ES5⟩ := hg.2.2.2 (hL 7 (by decide))
          have E5H := hid ES5
          have hlen5 : Hid ((os ++ [o]).length = os.length + 1) := by show _ = _; simp
          clear hg hR hL ES5 OPC x2 EL RSD OUTB OUT HB1 ER0 HE4
          go_wp2_with fail
          have hl5 := hlen5.out
          have hf5 := HF0.out
          go_roundg (10 - (os ++ [o]).length)
          case measure => omega
          case rel => exact ⟨r2, os ++ [o], ya, yc, rows5, Nat.le_refl _, by omega, by show _ → _; intro c; omega, E5H.out, by show _ = _; rw [HE5.out, show 11 - (os ++ [o]).length = f0 by omega]⟩
      | false =>
        have HE5 : Hid (rEv en r = ((k, p, os), rEnd en rr)) := by show _ = _; rw [HE4.out, rOps_end hs]
        obtain ⟨ao, ac, c0⟩ := rs_len ER0.out.rs
        go_wp2_with fail
        go_at_call 17
        refine (is_any _ _ _ _ _ _ ER0.out.rs).mono ?_
        rintro e w' ⟨rfl, rfl⟩
        rw [hs]
        by_cases hl0 : rr.1 = []
        · have hl0i : ¬ (0 : Int) < (rr.1.length : Int) := by rw [hl0]; simp
          have HE6 : Hid (rEv en r = ((k, p, os), rr)) := by show _ = _; rw [HE5.out]; unfold rEnd; rw [if_pos hl0]
          obtain ⟨w7, hw7⟩ : ∃ w7, w7 = wr := ⟨_, rfl⟩
          rw [← hw7] at ER0 c0 ⊢
          clear hw7
          obtain ⟨rz, hrz⟩ : ∃ rz : Rd, rz = rr := ⟨_, rfl⟩
          have ES7 : Hid (ER bx ab eb B en w k p rz os w7 (.slice ta os.length tc) rows) := by rw [hrz]; exact ER0.out
          rw [← hrz] at HE6
          clear hrz
          clear ER0
          obtain ⟨o0, o1, o2, p0, p1, p2⟩ := ES7.out.ec
          obtain ⟨a0, a1, a2, z0, z1, z2⟩ := ES7.out.ac
          have nAE : ab ≠ eb := fun c => nEA c.symm
          rw [nWab] at a0 a1 a2 z0 z1 z2 nEA nAE
          go_wp2_with fail
          rw [HE6.out]
          refine bodyPost_ret (v := .agg #[.int .i64 k, .int .i64 p, .slice ta os.length tc]) (by simp [results, Tryz.results20, go_sem, a0, a1, a2]) rfl ⟨_, rfl, ⟨_, rfl, ?_⟩, rs_set (rs_set (rs_set ES7.out.rs (by omega) _) (by omega) _) (by omega) _, ((ES7.out.be.setNew (p := ⟨w.heap.size, 0, none⟩) (Nat.le_refl _) _).setNew (p := ⟨w.heap.size, 1, none⟩) (Nat.le_refl _) _).setNew (p := ⟨w.heap.size, 2, none⟩) (Nat.le_refl _) _⟩
          have hr := ES7.out.out.rows_in (bytes := 64) (fun _ _ _ _ _ _ h => h.keep) (by omega)
          have hb3 : Beside w.heap.size w7 (((w7.setCell ⟨w.heap.size, 0, none⟩ (.int .i64 k)).setCell ⟨w.heap.size, 1, none⟩ (.int .i64 p)).setCell ⟨w.heap.size, 2, none⟩ (.slice ta os.length tc)) := (((Beside.refl w.heap.size w7).setCell (p := ⟨w.heap.size, 0, none⟩) rfl _).setCell (p := ⟨w.heap.size, 1, none⟩) rfl _).setCell (p := ⟨w.heap.size, 2, none⟩) rfl _
          exact OpsIn.keep hr (hb3.keepsIn (by omega) _ (fun _ h => h)) (fun b _ hb => by omega)
        · have hl0i : (0 : Int) < (rr.1.length : Int) := by
            have := List.length_pos_iff.2 hl0
            omega
          have HE6 : Hid (rEv en r = ((k, p, os), (rWant en rr 4 ⟨#[]⟩).2)) := by show _ = _; rw [HE5.out]; unfold rEnd; rw [if_neg hl0]
          go_wp2_with fail
          go_at_call 18
          refine (want_any _ _ _ _ _ _ ER0.out.rs).mono ?_
          rintro e w7 ⟨rfl, h7, b7⟩
          have ES7 := hid (ER0.out.beside b7 h7 nA1 nE1 nBB)
          generalize (rWant en rr 4 ⟨#[]⟩).2 = rz at ES7 HE6
          clear h7 b7 ER0
          obtain ⟨o0, o1, o2, p0, p1, p2⟩ := ES7.out.ec
          obtain ⟨a0, a1, a2, z0, z1, z2⟩ := ES7.out.ac
          have nAE : ab ≠ eb := fun c => nEA c.symm
          rw [nWab] at a0 a1 a2 z0 z1 z2 nEA nAE
          go_wp2_with fail
          rw [HE6.out]
          refine bodyPost_ret (v := .agg #[.int .i64 k, .int .i64 p, .slice ta os.length tc]) (by simp [results, Tryz.results20, go_sem, a0, a1, a2]) rfl ⟨_, rfl, ⟨_, rfl, ?_⟩, rs_set (rs_set (rs_set ES7.out.rs (by omega) _) (by omega) _) (by omega) _, ((ES7.out.be.setNew (p := ⟨w.heap.size, 0, none⟩) (Nat.le_refl _) _).setNew (p := ⟨w.heap.size, 1, none⟩) (Nat.le_refl _) _).setNew (p := ⟨w.heap.size, 2, none⟩) (Nat.le_refl _) _⟩
          have hr := ES7.out.out.rows_in (bytes := 64) (fun _ _ _ _ _ _ h => h.keep) (by omega)
          have hb3 : Beside w.heap.size w7 (((w7.setCell ⟨w.heap.size, 0, none⟩ (.int .i64 k)).setCell ⟨w.heap.size, 1, none⟩ (.int .i64 p)).setCell ⟨w.heap.size, 2, none⟩ (.slice ta os.length tc)) := (((Beside.refl w.heap.size w7).setCell (p := ⟨w.heap.size, 0, none⟩) rfl _).setCell (p := ⟨w.heap.size, 1, none⟩) rfl _).setCell (p := ⟨w.heap.size, 2, none⟩) rfl _
          exact OpsIn.keep hr (hb3.keepsIn (by omega) _ (fun _ h => h)) (fun b _ hb => by omega)
end Go.Proofs.YtegeiojcdjnmjaaGreatDoor
