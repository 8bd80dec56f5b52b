/-
  The document's Unique.
-/
import Derived.Test.YtnfbcmnlloipiaaTb6
namespace Go.Proofs.Ytnfbcmnlloipiaa
set_option linter.unusedVariables false
set_option linter.unusedSimpArgs false
open Go.RowKit Go.Lib Go.Maps Go.Sort
open Tx (MTxn info_parts flatten_len flatten_get RowsIn.cells RowCells TxnRow TxnsIn setCell_self cloneInts_any OpsOwn)

/-- Each write's value is written once. -/
def onceN (N M : List MN) : Prop := ∀ x ∈ M, isW x.2.2.kind = true → (writersN N x.2.2.key x.2.2.value).length ≤ 1
theorem uniq_once (N : List MN) : uniqN N ↔ onceN N N := by
  constructor
  · intro h x _ _
    exact h _ _
  · intro h s v
    by_cases e : writersN N s v = []
    · rw [e]
      exact Nat.zero_le _
    · unfold writersN at e
      rw [List.map_eq_nil_iff] at e
      obtain ⟨x, hx⟩ := List.exists_mem_of_ne_nil _ e
      obtain ⟨h1, h2⟩ := List.mem_filter.1 hx
      unfold hitW at h2
      simp only [Bool.and_eq_true, decide_eq_true_eq] at h2
      obtain ⟨⟨a, rfl⟩, rfl⟩ := h2
      exact h x h1 a
theorem once_nil (N : List MN) : onceN N [] := fun x hx => by simp at hx
theorem once_snoc (N M : List MN) (x : MN) (h : onceN N M) (hx : isW x.2.2.kind = true → (writersN N x.2.2.key x.2.2.value).length ≤ 1) : onceN N (M ++ [x]) := fun y hy hw => by
  rcases List.mem_append.1 hy with hy | hy
  · exact h y hy hw
  · obtain rfl : y = x := by simpa using hy
    exact hx hw
theorem notes_mem (l : List MTxn) (k j : Nat) (hj : j < (l.getD k default).ops.length) : ∀ n, k < n → (k, j, (l.getD k default).ops.getD j default) ∈ notes l n
  | 0, h => absurd h (Nat.not_lt_zero _)
  | n + 1, h => by
    rw [notes]
    by_cases e : k = n
    · subst e
      refine List.mem_append_right _ (List.mem_map.2 ⟨j, by simpa using hj, rfl⟩)
    · exact List.mem_append_left _ (notes_mem l k j hj n (by omega))
set_option maxHeartbeats 8000000 in
set_option maxRecDepth 100000 in
theorem runiq_is {S : Nat → Prop} (w : World) (v : Value) (l : List MTxn) (h : TxnsIn S w v l) (hl : l.length ≤ 1000) (hten : ∀ t ∈ l, t.ops.length ≤ 10) :
    Calls Try.prog 36 #[v] w fun e w' => ∃ u : Bool, e = .returned (.bool u) ∧ (u = true ↔ uniqN (notes l l.length)) ∧ Below w.heap.size w w' := by
  have HT := hid h
  obtain ⟨a1, c1, rfl, l1, k1⟩ := RowsIn.cells h (by omega)
  have HC := hid k1
  have HTEN := hid hten
  have hli : (l.length : Int) ≤ 1000 := by omega
  clear h k1 hten
  go_enter Try.func36, Try.ntmps36
  go_wp2_with fail
  go_loopg [4, 6, 9] l.length (fun gg _ _ i wr => ∃ k : Nat, k ≤ l.length ∧ l.length - k ≤ gg ∧ i = .int .i64 k ∧ Aside (Below w.heap.size w wr) ∧ Aside (onceN (notes l l.length) (notes l k)))
  case atStart => exact ⟨0, Nat.zero_le _, by omega, rfl, Below.refl _ _, once_nil _⟩
  case round =>
    obtain ⟨k, hk, hgk, rfl, BR, OR⟩ := hrel
    by_cases hlt : k < l.length
    · have hlti : (k : Int) < l.length := by omega
      obtain ⟨b, o, cs, rfl, hbl, _, ⟨ov, hcs, hops⟩, hcell⟩ := HC.out k hlt
      subst hcs
      obtain ⟨oa, oc, hov, hol, hoc⟩ := id hops
      subst hov
      have hmem : l.getD k default ∈ l := by simp [List.getD, List.getElem?_eq_getElem hlt]
      have d0 := (BR.out.cell (p := ⟨b, o + k * 5 + 0, none⟩) hbl).trans (hcell 0 _ rfl)
      have d1 := (BR.out.cell (p := ⟨b, o + k * 5 + 1, none⟩) hbl).trans (hcell 1 _ rfl)
      have d2 := (BR.out.cell (p := ⟨b, o + k * 5 + 2, none⟩) hbl).trans (hcell 2 _ rfl)
      have d3 := (BR.out.cell (p := ⟨b, o + k * 5 + 3, none⟩) hbl).trans (hcell 3 _ rfl)
      have d4 := (BR.out.cell (p := ⟨b, o + k * 5 + 4, none⟩) hbl).trans (hcell 4 _ rfl)
      rw [Nat.add_zero] at d0
      have hten : (l.getD k default).ops.length ≤ 10 := HTEN.out _ hmem
      have HNT : Hid (notes l (k + 1) = notes l k ++ notesT k (l.getD k default).ops) := rfl
      have HME : Hid (∀ j, j < (l.getD k default).ops.length → (k, j, (l.getD k default).ops.getD j default) ∈ notes l l.length) := fun j hj => notes_mem l k j hj l.length hlt
      have HOC := hid hoc
      have BN : ∀ x, Hid (Below w.heap.size w (wr.alloc x)) := fun x => BR.out.trans ((below_box wr _).mono BR.out.size)
      generalize (l.getD k default).ops = T at *
      generalize l.getD k default = TX at *
      clear hcell hops hoc hmem
      go_wp2_with fail
      have hTi : (T.length : Int) ≤ 10 := by omega
      have OR2 := hid OR.out
      go_loopg [6, 16] T.length (fun gg _ i wi => ∃ j : Nat, j ≤ T.length ∧ T.length - j ≤ gg ∧ i = .int .i64 j ∧ Aside (Below w.heap.size w wi) ∧ Aside (onceN (notes l l.length) (notes l k ++ (notesT k T).take j)))
      case atStart => exact ⟨0, Nat.zero_le _, by omega, rfl, (BN _).out, (by rw [List.take_zero, List.append_nil]; exact OR2.out)⟩
      case round =>
        clear BN BR OR OR2 d0 d1 d2 d3 d4
        obtain ⟨j, hj, hgj, rfl, BJ, OJ⟩ := hrel
        by_cases hjl : j < T.length
        · have hjli : (j : Int) < T.length := by omega
          obtain ⟨ob, oo, rfl, _, hcs⟩ := HOC.out (by omega)
          obtain ⟨cs, _, ⟨lv, hcse, hli2⟩, hcell⟩ := hcs j hjl
          subst hcse
          obtain ⟨la, lc, rfl, _⟩ := id hli2
          have hobl := World.block_lt_of_cell? _ _ (hcell 0 _ rfl)
          have x0 := (BJ.out.cell (p := ⟨ob, oo + j * 6 + 0, none⟩) hobl).trans (hcell 0 _ rfl)
          have x1 := (BJ.out.cell (p := ⟨ob, oo + j * 6 + 1, none⟩) hobl).trans (hcell 1 _ rfl)
          have x2 := (BJ.out.cell (p := ⟨ob, oo + j * 6 + 2, none⟩) hobl).trans (hcell 2 _ rfl)
          have x3 := (BJ.out.cell (p := ⟨ob, oo + j * 6 + 3, none⟩) hobl).trans (hcell 3 _ rfl)
          have x4 := (BJ.out.cell (p := ⟨ob, oo + j * 6 + 4, none⟩) hobl).trans (hcell 4 _ rfl)
          have x5 := (BJ.out.cell (p := ⟨ob, oo + j * 6 + 5, none⟩) hobl).trans (hcell 5 _ rfl)
          rw [Nat.add_zero] at x0
          have hTK : Hid ((isW (T.getD j default).kind = true → (writersN (notes l l.length) (T.getD j default).key (T.getD j default).value).length ≤ 1) → onceN (notes l l.length) (notes l k ++ (notesT k T).take (j + 1))) := fun hx => by
            rw [notesT_take k T j hjl, ← List.append_assoc]
            exact once_snoc _ _ _ OJ.out hx
          have HBAD : Hid (isW (T.getD j default).kind = true → ¬ (writersN (notes l l.length) (T.getD j default).key (T.getD j default).value).length ≤ 1 → ¬ uniqN (notes l l.length)) := fun h1 h2 h3 => h2 (h3 _ _)
          clear hcell hcs hli2
          generalize T.getD j default = O at *
          obtain ⟨ok, os, ovv, ol, oh, on⟩ := O
          simp only [MOp.kind, MOp.key, MOp.value, MOp.list, MOp.has, MOp.nl] at x0 x1 x2 x3 x4 x5 hTK HBAD
          have RW := hid (fun W => rwrite_is (ok, os, ovv, ol, oh, on) la lc W)
          simp only [opV, MOp.kind, MOp.key, MOp.value, MOp.list, MOp.has, MOp.nl] at RW
          have hwrs : w.heap.size ≤ wr.heap.size := BJ.out.size
          have STEP : ∀ w2, Hid (Below (wr.alloc (.cells #[.int .i64 ok, .string os, .int .i64 ovv, .slice la ol.length lc, .bool oh, .bool on] 49)).heap.size (wr.alloc (.cells #[.int .i64 ok, .string os, .int .i64 ovv, .slice la ol.length lc, .bool oh, .bool on] 49)) w2 → Below w.heap.size w w2 ∧ wr.heap.size < w2.heap.size ∧ w2.cell? ⟨wr.heap.size, 1, none⟩ = some (.string os) ∧ w2.cell? ⟨wr.heap.size, 2, none⟩ = some (.int .i64 ovv)) := fun w2 hb => by
            have hb1 : Below wr.heap.size wr w2 := (below_box wr _).trans (hb.mono (by rw [alloc_size]; omega))
            have hs1 := hb.size
            rw [alloc_size] at hs1
            exact ⟨BJ.out.trans (hb1.mono hwrs), by omega, (hb.cell (p := ⟨wr.heap.size, 1, none⟩) (by simp)).trans (by simp), (hb.cell (p := ⟨wr.heap.size, 2, none⟩) (by simp)).trans (by simp)⟩
          clear BJ OJ
          cases hw : isW ok with
          | false =>
            have hh := hid (hTK.out (fun c => absurd c (by rw [hw]; decide)))
            rw [hw] at RW
            clear hTK hw HBAD
            go_wp2_with (go_at_call 63; refine (RW.out _).mono ?_; rintro e w2 ⟨rfl, b2⟩; obtain ⟨p1, p3, p4, p5⟩ := (STEP w2).out b2; have B2 := hid p1; clear p1 b2 STEP RW)
            go_roundg (T.length - (j + 1))
            case measure => omega
            case rel => exact ⟨j + 1, by omega, by omega, by go_num, B2.out, hh.out⟩
          | true =>
            rw [hw] at RW
            have HW := hid hw
            clear hw
            by_cases hone : (writersN (notes l l.length) os ovv).length ≤ 1
            · have hh := hid (hTK.out (fun _ => hone))
              have hgt : ¬ (1 < ((writersN (notes l l.length) os ovv).length : Int)) := by omega
              have hgd : decide (1 < ((writersN (notes l l.length) os ovv).length : Int)) = false := by simpa using hgt
              clear hTK HBAD
              go_wp2_with (first
                | (go_at_call 63; refine (RW.out _).mono ?_; rintro e w2 ⟨rfl, b2⟩; obtain ⟨p1, p3, p4, p5⟩ := (STEP w2).out b2; have B2 := hid p1; clear p1 b2 STEP RW)
                | (go_at_call 64; refine (rwriters_is w2 _ l os ovv (HT.out.keep (keeps_below (B2.out.mono (Nat.le_refl _))) (fun _ _ h => h)) (by omega) HTEN.out).mono ?_; rintro e w3 ⟨v3, rfl, h3, b3⟩; obtain ⟨va, vc, rfl⟩ := own_slice h3; have B3 : Hid (Below w.heap.size w w3) := B2.out.trans (b3.mono B2.out.size); clear h3 b3))
              go_roundg (T.length - (j + 1))
              case measure => omega
              case rel => exact ⟨j + 1, by omega, by omega, by go_num, B3.out, hh.out⟩
            · have hN := hid (HBAD.out HW.out hone)
              have hgt : 1 < ((writersN (notes l l.length) os ovv).length : Int) := by omega
              have hgd : decide (1 < ((writersN (notes l l.length) os ovv).length : Int)) = true := by simpa using hgt
              clear hTK HBAD
              go_wp2_with (first
                | (go_at_call 63; refine (RW.out _).mono ?_; rintro e w2 ⟨rfl, b2⟩; obtain ⟨p1, p3, p4, p5⟩ := (STEP w2).out b2; have B2 := hid p1; clear p1 b2 STEP RW)
                | (go_at_call 64; refine (rwriters_is w2 _ l os ovv (HT.out.keep (keeps_below (B2.out.mono (Nat.le_refl _))) (fun _ _ h => h)) (by omega) HTEN.out).mono ?_; rintro e w3 ⟨v3, rfl, h3, b3⟩; obtain ⟨va, vc, rfl⟩ := own_slice h3; have B3 : Hid (Below w.heap.size w w3) := B2.out.trans (b3.mono B2.out.size); clear h3 b3))
              go_ret
              exact ⟨false, rfl, ⟨fun c => absurd c (by decide), fun c => absurd c hN.out⟩, B3.out⟩
        · have hje : j = T.length := by omega
          rw [hje, List.take_of_length_le (by rw [notesT_len]; exact Nat.le_refl _)] at OJ
          clear hje
          go_wp2_with fail
          go_roundg (l.length - (k + 1))
          case measure => omega
          case rel => exact ⟨k + 1, by omega, by omega, by go_num, BJ.out, (by rw [HNT.out]; exact OJ.out)⟩
    · have hke : k = l.length := by omega
      have OE : Hid (uniqN (notes l l.length)) := by rw [hke] at OR; exact (uniq_once _).2 OR.out
      clear hke
      go_wp2_with fail
      go_ret
      exact ⟨true, rfl, ⟨fun _ => OE.out, fun _ => rfl⟩, BR.out⟩
end Go.Proofs.Ytnfbcmnlloipiaa
