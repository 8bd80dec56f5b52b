/-
  The document's state in memory; List, Value.
-/
import Derived.Test.YtjeheknhpfkaiaaDoorR1
namespace Go.Proofs.YtjeheknhpfkaiaaDoor
set_option linter.unusedVariables false
set_option linter.unusedSimpArgs false
open Go.RowKit Go.Lib

theorem key_beq' (a b : ByteArray) : (a.toList == b.toList) = decide (a = b) := by
  rw [Lib.toList_data, Lib.toList_data]
  by_cases h : a = b
  · subst h; simp
  · rw [decide_eq_false h]
    simp only [beq_eq_false_iff_ne, ne_eq]
    exact fun c => h (WideShapes.bytes_inj c)
theorem bytes_eq {a b : ByteArray} (h : a.toList = b.toList) : a = b := of_decide_eq_true (by rw [← key_beq', h]; simp)
def opC (o : MOp) (lv : Value) : List Value := [.int .i64 o.kind, .string o.key, .int .i64 o.value, lv, .bool o.has, .bool o.nl]
/-- Operations as cells, one behind the other. -/
def rowsV : List (MOp × Value) → List Value
  | [] => []
  | r :: rs => opC r.1 r.2 ++ rowsV rs
theorem rowsV_snoc (rs : List (MOp × Value)) (r : MOp × Value) : rowsV (rs ++ [r]) = rowsV rs ++ opC r.1 r.2 := by
  induction rs with
  | nil => simp [rowsV]
  | cons x rs ih => rw [List.cons_append, rowsV, ih, rowsV, List.append_assoc]
theorem rowsV_len (rs : List (MOp × Value)) : (rowsV rs).length = rs.length * 6 := by
  induction rs with
  | nil => rfl
  | cons x rs ih =>
    rw [rowsV, List.length_append, ih, List.length_cons]
    show 6 + rs.length * 6 = _
    omega
theorem rowsV_at : ∀ (rs : List (MOp × Value)) (j i : Nat), j < rs.length → i < 6 → (rowsV rs)[j * 6 + i]? = (opC (rs.getD j default).1 (rs.getD j default).2)[i]?
  | [], j, i, hj, _ => by simp at hj
  | r :: rs, 0, i, _, hi => by
    rw [rowsV, List.getElem?_append_left (by show 0 * 6 + i < 6; omega)]
    simp
  | r :: rs, j + 1, i, hj, hi => by
    rw [rowsV, List.getElem?_append_right (by show 6 ≤ (j + 1) * 6 + i; omega)]
    have e : (j + 1) * 6 + i - (opC r.1 r.2).length = j * 6 + i := by show (j + 1) * 6 + i - 6 = _; omega
    rw [e, rowsV_at rs j i (by simpa using hj) hi]
    simp
/-- The document's state: a box with a row of one's own. -/
structure Rst (B : Nat) (w : World) (xb : Nat) (v : Value) (L : List MOp) : Prop where
  ob : w.heap[xb]? = some (.cells #[v] 35 (0, 0))
  row : ∃ rd : List (MOp × Value), w.ownsRow B 56 6 v rd.length (rowsV rd) ∧ rd.map Prod.fst = L ∧ ∀ r ∈ rd, ∃ a n c, r.2 = .slice a n c
theorem Rst.keep {B : Nat} {w w' : World} {xb : Nat} {v : Value} {L : List MOp} (h : Rst B w xb v L) (h1 : w'.heap[xb]? = w.heap[xb]?) (h2 : ∀ g, v.ownBlock = some g → w'.heap[g]? = w.heap[g]?) : Rst B w' xb v L := by
  obtain ⟨rd, q1, q2, q3⟩ := h.row
  exact ⟨h1.trans h.ob, ⟨rd, own_same q1 h2, q2, q3⟩⟩
theorem Rst.lt {B : Nat} {w : World} {xb : Nat} {v : Value} {L : List MOp} (h : Rst B w xb v L) : xb < w.heap.size := blt h.ob
theorem Rst.olt {B : Nat} {w : World} {xb : Nat} {v : Value} {L : List MOp} (h : Rst B w xb v L) {g : Nat} (hg : v.ownBlock = some g) : B ≤ g ∧ g < w.heap.size := by
  obtain ⟨rd, q1, q2, q3⟩ := h.row
  exact own_block2 q1 hg
theorem Rst.later {B : Nat} {w w' : World} {xb : Nat} {v : Value} {L : List MOp} (h : Rst B w xb v L) (hb : Below w.heap.size w w') : Rst B w' xb v L :=
  h.keep (hb.block _ h.lt) (fun g hg => hb.block g (h.olt hg).2)
theorem Rst.cells {B : Nat} {w : World} {xb : Nat} {v : Value} {L : List MOp} (h : Rst B w xb v L) : ∃ a c, v = .slice a L.length c ∧ (L.length ≤ c) ∧ ∀ j, j < L.length → ∃ b lv, a = some ⟨b, 0, none⟩ ∧ (∃ la ln lc, lv = .slice la ln lc) ∧ b < w.heap.size ∧ w.cell? ⟨b, j * 6, none⟩ = some (.int .i64 (L.getD j default).kind) ∧ w.cell? ⟨b, j * 6 + 1, none⟩ = some (.string (L.getD j default).key) ∧ w.cell? ⟨b, j * 6 + 2, none⟩ = some (.int .i64 (L.getD j default).value) ∧
    w.cell? ⟨b, j * 6 + 3, none⟩ = some lv ∧ w.cell? ⟨b, j * 6 + 4, none⟩ = some (.bool (L.getD j default).has) ∧ w.cell? ⟨b, j * 6 + 5, none⟩ = some (.bool (L.getD j default).nl) := by
  obtain ⟨rd, q1, q2, q3⟩ := h.row
  have hl : rd.length = L.length := by rw [← q2, List.length_map]
  rcases q1.2 with ⟨hv, hn⟩ | ⟨g, cap, cur, hv, hB, hh, h1, _⟩
  · refine ⟨none, 0, by rw [hv, ← hl, hn], by omega, fun j hj => by omega⟩
  · refine ⟨_, cap, by rw [hv, hl], by omega, fun j hj => ?_⟩
    have hjr : j < rd.length := by omega
    have hgd : (rd.getD j default).1 = L.getD j default := by
      rw [← q2]
      simp [List.getD, List.getElem?_eq_getElem hjr]
    have hc : ∀ i, i < 6 → w.cell? ⟨g, j * 6 + i, none⟩ = (opC (L.getD j default) (rd.getD j default).2)[i]? := fun i hi => by
      subst hv
      rw [World.ownsRow.cellAt q1 (j * 6 + i) (by omega), rowsV_at rd j i hjr hi, hgd]
    have hm : rd.getD j default ∈ rd := by simp [List.getD, List.getElem?_eq_getElem hjr]
    exact ⟨g, (rd.getD j default).2, rfl, q3 _ hm, blt hh, hc 0 (by omega), hc 1 (by omega), hc 2 (by omega), hc 3 (by omega), hc 4 (by omega), hc 5 (by omega)⟩
theorem lst_take (L : List MOp) (key : ByteArray) (k : Nat) (h : k < L.length) : lstM (L.take (k + 1)) key = if (L.getD k default).kind = 1 ∧ (L.getD k default).key = key then lstM (L.take k) key ++ [(L.getD k default).value] else lstM (L.take k) key := by
  have e : L.take (k + 1) = L.take k ++ [L.getD k default] := by
    rw [List.take_succ_eq_append_getElem h]
    simp [List.getD, List.getElem?_eq_getElem h]
  rw [e, lst_snoc]

set_option maxHeartbeats 2000000 in
set_option maxRecDepth 100000 in
/-- The document's list. -/
theorem rlist_is (B : Nat) (w : World) (xb : Nat) (v : Value) (L : List MOp) (key : ByteArray) (h : Rst B w xb v L) (hL : L.length ≤ 1099511627776) :
    Calls Tryd.prog 20 #[.pointer (some ⟨xb, 0, none⟩), .string key] w fun e w' => ∃ u, e = .returned u ∧ w'.ownsRow w.heap.size 3 1 u (lstM L key).length ((lstM L key).map (Value.int .i64)) ∧ Below w.heap.size w w' := by
  obtain ⟨i0, hi0, hz0, hz1, hz2⟩ := info_parts Tryd.infoInt
  obtain ⟨a, c, rfl, hcap, hc⟩ := h.cells
  have hob := Lib.cell_of_heap h.ob 0
  have HC := hid hc
  have HI := hid hi0
  have HZ0 := hid hz0
  have HZ1 := hid hz1
  have HZ2 := hid hz2
  have hlen : (L.length : Int) ≤ 1099511627776 := by omega
  clear hc hi0 hz0 hz1 hz2 h
  go_enter Tryd.func20, Tryd.ntmps20
  go_wp2_with fail
  go_loopg [5, 13] L.length (fun g u i wr => ∃ k : Nat, k ≤ L.length ∧ L.length - k ≤ g ∧ i = .int .i64 k ∧ Aside (wr.ownsRow w.heap.size 3 1 u (lstM (L.take k) key).length ((lstM (L.take k) key).map (Value.int .i64))) ∧ Aside (Below w.heap.size w wr))
  case atStart => exact ⟨0, Nat.zero_le _, by omega, rfl, World.ownsRow_nil _ _ _ _, Below.refl _ _⟩
  case round =>
    obtain ⟨k, hk, hg, rfl, OW, BW⟩ := hrel
    by_cases hlt : k < L.length
    · have hlti : (k : Int) < L.length := by omega
      obtain ⟨b, lv, rfl, ⟨la, ln, lc, rfl⟩, hbl, c0, c1, c2, c3, c4, c5⟩ := HC.out k hlt
      have HN := hid (lst_take L key k hlt)
      obtain ⟨O, hO⟩ : ∃ O, L.getD k default = O := ⟨_, rfl⟩
      rw [hO] at c0 c1 c2 c4 c5 HN
      clear hO
      have q : ∀ i u, w.cell? ⟨b, i, none⟩ = some u → wr.cell? ⟨b, i, none⟩ = some u := fun i u hc => (BW.out.cell (p := ⟨b, i, none⟩) hbl).trans hc
      have d0 := q _ _ c0
      have d1 := q _ _ c1
      have d2 := q _ _ c2
      have d3 := q _ _ c3
      have d4 := q _ _ c4
      have d5 := q _ _ c5
      clear c0 c1 c2 c3 c4 c5 q
      obtain ⟨N, hN⟩ : ∃ N, (lstM (L.take k) key).length = N := ⟨_, rfl⟩
      have hNk : N ≤ 1099511627776 := by
        have h1 := lst_len (L.take k) key
        have h2 : (L.take k).length ≤ k := List.length_take_le _ _
        omega
      have OW2 : Hid (wr.ownsRow w.heap.size 3 1 u5 N ((lstM (L.take k) key).map (Value.int .i64))) := by have := OW.out; rw [hN] at this; exact this
      have HNN := hid hN
      clear hN
      have hws := BW.out.size
      by_cases h1 : O.kind = 1
      · have e1 : (O.kind == 1) = true := by simp [h1]
        have H1 := hid h1
        clear h1
        by_cases h2 : O.key = key
        · have e2 : (O.key.toList == key.toList) = true := by simp [h2]
          obtain ⟨sa, sc, hsl⟩ := own_slice OW2.out
          subst hsl
          have HE : Hid (lstM (L.take (k + 1)) key = lstM (L.take k) key ++ [O.value]) := by show _ = _; rw [HN.out, if_pos ⟨H1.out, h2⟩]
          clear h2 HN
          go_wp2_with (at_builtin; refine wpList_append_lies _ rfl _ _ 47 rfl w.heap.size 3 i0 (.int .i64 0) 1 8 Tryd.underlying47 HI.out HZ0.out HZ1.out HZ2.out rfl (by decide) (.slice sa N sc) N ((lstM (L.take k) key).map (Value.int .i64)) rfl ((OW2.out.alloc _).alloc _) ⟨wr.heap.size + 1, 0, none⟩ 1 1 [.int .i64 O.value] rfl rfl (World.news_of_block (cs := #[.int .i64 O.value]) (t := 3) (fr := (0, 0)) (by rw [alloc_at, alloc_size, if_pos rfl])) (by simp [Value.oneCell']) (by decide) (by unfold maxLen; omega) (by omega) (by simp; omega) (wr.heap.size + 2) (by simp) ?_; intro g cap w7 hown hgrow hat hglt)
          have HB7 : Hid (Below w.heap.size w w7) := by
            have q := (BW.out.trans ((((Below.refl _ wr).alloc (Nat.le_refl _) (.cells #[.int .i64 O.kind, .string O.key, .int .i64 O.value, .slice la ln lc, .bool O.has, .bool O.nl] 56)).alloc (by simp) (.cells #[.int .i64 O.value] 3)).mono BW.out.size))
            exact q.grown hgrow q.size (fun k hk => (own_block2 OW2.out hk).1)
          have HO7 : Hid (w7.ownsRow w.heap.size 3 1 (.slice (some ⟨g, 0, none⟩) (N + 1) cap) (lstM (L.take (k + 1)) key).length ((lstM (L.take (k + 1)) key).map (Value.int .i64))) := by
            show w7.ownsRow _ _ _ _ _ _
            rw [HE.out, List.length_append, HNN.out, List.map_append]
            exact hown
          clear hown hgrow hat hglt
          go_wp2_with fail
          go_roundg (L.length - (k + 1))
          case rel => exact ⟨k + 1, by omega, by omega, by go_num, HO7.out, HB7.out⟩
          case measure => omega
        · have e2 : (O.key.toList == key.toList) = false := by
            rw [beq_eq_false_iff_ne]
            exact fun c => h2 (bytes_eq c)
          have HE : Hid (lstM (L.take (k + 1)) key = lstM (L.take k) key) := by show _ = _; rw [HN.out, if_neg (fun c => h2 c.2)]
          clear h2 HN
          go_wp2_with fail
          go_roundg (L.length - (k + 1))
          case rel => exact ⟨k + 1, by omega, by omega, by go_num, (by show wr.alloc _ |>.ownsRow _ _ _ _ _ _; rw [HE.out]; exact OW.out.alloc _), BW.out.trans ((below_box wr _).mono BW.out.size)⟩
          case measure => omega
      · have e1 : (O.kind == 1) = false := by simp [h1]
        have HE : Hid (lstM (L.take (k + 1)) key = lstM (L.take k) key) := by show _ = _; rw [HN.out, if_neg (fun c => h1 c.1)]
        clear h1 HN
        go_wp2_with fail
        go_roundg (L.length - (k + 1))
        case rel => exact ⟨k + 1, by omega, by omega, by go_num, (by show wr.alloc _ |>.ownsRow _ _ _ _ _ _; rw [HE.out]; exact OW.out.alloc _), BW.out.trans ((below_box wr _).mono BW.out.size)⟩
        case measure => omega
    · have HLL : Hid (L.take k = L) := by show L.take k = L; rw [List.take_of_length_le (by omega)]
      go_wp2_with fail
      go_ret
      refine ⟨_, rfl, ?_, BW.out⟩
      have := OW.out
      rw [HLL.out] at this
      exact this
end Go.Proofs.YtjeheknhpfkaiaaDoor
