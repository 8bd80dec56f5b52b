/-
  The document's Order and Cyclic.
-/
import Derived.Test.YtjgmkigfpjmlaaaDoorZP
import Derived.Test.YtjgmkigfpjmlaaaDoorZO
namespace Go.Proofs.YtjgmkigfpjmlaaaDoor
set_option linter.unusedVariables false
set_option linter.unusedSimpArgs false
open Go.RowKit

theorem ends_edge (L : Nat → Nat → Nat) (labels : Int) (m v : Nat) : endsF L m labels 4 v = edge L labels m v := rfl
/-- Whether no edge leads to v from a node below k that is not done. -/
def frB (E : Nat → Nat → Bool) (M : Nat → Bool) (v k : Nat) : Bool := (List.range k).all fun m => M m || !E m v
theorem frB_succ (E : Nat → Nat → Bool) (M : Nat → Bool) (v k : Nat) : frB E M v (k + 1) = (frB E M v k && (M k || !E k v)) := by
  unfold frB
  rw [List.range_succ, List.all_append]
  simp
theorem frB_false {E : Nat → Nat → Bool} {M : Nat → Bool} {v k n : Nat} (hk : k < n) (hM : M k = false) (hE : E k v = true) : frB E M v n = false := by
  unfold frB
  rw [List.all_eq_false]
  exact ⟨k, List.mem_range.2 hk, by simp [hM, hE]⟩
set_option maxHeartbeats 4000000 in
set_option maxRecDepth 100000 in
theorem rfree_is (b n : Nat) (v : Value) (rw' : Nat → Nat) (L : Nat → Nat → Nat) (labels : Int) (x mk : Nat) (M : Nat → Bool) (w : World) (h : RefG w b n v rw' L) (hx : x < n) (hM : LayB w mk n M) :
    Calls Tryd.prog 35 #[.pointer (some ⟨b, 0, none⟩), .int .i64 labels, .int .i64 x, .slice (some ⟨mk, 0, none⟩) n n] w fun e w' => e = .returned (.bool (frB (edge L labels) M x n)) ∧ w = w' := by
  have R := hid h
  have LB := hid hM
  have hn3 := h.bound
  have hni : (n : Int) ≤ 300 := by omega
  obtain ⟨ao, cap, hv, -⟩ := h.form
  have c0 := h.c0
  rw [hv] at c0
  clear h hM hv
  go_enter Tryd.func35, Tryd.ntmps35
  go_wp2_with fail
  go_loopg [9, 15] n (fun g _ i wr => ∃ k : Nat, k ≤ n ∧ n - k ≤ g ∧ i = .int .i64 k ∧ Aside (frB (edge L labels) M x k = true) ∧ w = wr)
  case atStart => exact ⟨0, Nat.zero_le _, by omega, rfl, rfl, rfl⟩
  case round =>
    obtain ⟨k, hk, hg, rfl, FX, rfl⟩ := hrel
    by_cases hkn : k < n
    · have hkni : (k : Int) < n := by omega
      obtain ⟨cm', -⟩ := LB.out.cell k hkn
      cases hMk : M k with
      | true =>
        rw [hMk] at cm'
        have FN : Hid (frB (edge L labels) M x (k + 1) = true) := by show _ = _; rw [frB_succ, FX.out, hMk]; rfl
        clear hMk
        go_wp2_with fail
        go_roundg (n - (k + 1))
        · exact ⟨k + 1, by omega, by omega, by go_num, FN.out, rfl⟩
        · omega
      | false =>
        rw [hMk] at cm'
        have RL := hid (rlabels_ok b n v rw' L k x w R.out hkn hx)
        have hen := ends_and L k x labels (R.out.small k x)
        cases hE : endsF L k labels 4 x with
        | true =>
          have FF : Hid (frB (edge L labels) M x n = false) := frB_false hkn hMk hE
          rw [hE] at hen
          simp only [Bool.not_true] at hen
          obtain ⟨y, hy⟩ : ∃ y, L k x = y := ⟨_, rfl⟩
          rw [hy] at RL hen
          clear hy hE hMk
          go_wp2_with (go_at_call 55; refine RL.out.mono ?_; rintro e w' ⟨rfl, rfl⟩)
          go_ret
          exact ⟨by rw [FF.out]; rfl, rfl⟩
        | false =>
          have FN : Hid (frB (edge L labels) M x (k + 1) = true) := by show _ = _; rw [frB_succ, FX.out, hMk, ← ends_edge, hE]; rfl
          rw [hE] at hen
          simp only [Bool.not_false] at hen
          obtain ⟨y, hy⟩ : ∃ y, L k x = y := ⟨_, rfl⟩
          rw [hy] at RL hen
          clear hy hE hMk
          go_wp2_with (go_at_call 55; refine RL.out.mono ?_; rintro e w' ⟨rfl, rfl⟩)
          go_roundg (n - (k + 1))
          · exact ⟨k + 1, by omega, by omega, by go_num, FN.out, rfl⟩
          · omega
    · have hkni : ¬ (k : Int) < n := by omega
      obtain rfl : n = k := by omega
      have E := hid FX.out
      clear FX
      go_wp2_with fail
      go_ret
      exact ⟨by rw [E.out]; rfl, rfl⟩
/-- M tells what is placed. -/
def Plc (n : Nat) (l : List Nat) (M : Nat → Bool) : Prop := ∀ v, v < n → (M v = true ↔ v ∈ l)
theorem Plc.free {E : Nat → Nat → Bool} {n : Nat} {l : List Nat} {M : Nat → Bool} (h : Plc n l M) {v : Nat} (hv : v < n) : (!M v && frB E M v n) = true ↔ Free E n l v := by
  unfold frB Free
  rw [Bool.and_eq_true, List.all_eq_true]
  constructor
  · rintro ⟨h1, h2⟩
    refine ⟨hv, fun hm => ?_, fun m hm hml => ?_⟩
    · rw [(h v hv).2 hm] at h1; cases h1
    · have h3 := h2 m (List.mem_range.2 hm)
      have hmf : M m = false := by
        cases hM : M m with
        | false => rfl
        | true => exact absurd ((h m hm).1 hM) hml
      rw [hmf] at h3
      simpa using h3
  · rintro ⟨_, h1, h2⟩
    refine ⟨?_, fun m hm => ?_⟩
    · cases hM : M v with
      | false => rfl
      | true => exact absurd ((h v hv).1 hM) h1
    · have hm' := List.mem_range.1 hm
      cases hM : M m with
      | true => rfl
      | false =>
        have : m ∉ l := fun c => by rw [(h m hm').2 c] at hM; cases hM
        rw [h2 m hm' this]
        rfl
/-- The least below k that can stand next; -1: none. -/
def Nxt (E : Nat → Nat → Bool) (n : Nat) (l : List Nat) (k : Nat) (x : Int) : Prop := (x = -1 ∧ ∀ v, v < k → ¬ Free E n l v) ∨ ∃ v : Nat, v < k ∧ x = v ∧ Pk E n l v
theorem Nxt.no {E : Nat → Nat → Bool} {n : Nat} {l : List Nat} {k : Nat} {x : Int} (h : Nxt E n l k x) (hf : x < 0 → ¬ Free E n l k) : Nxt E n l (k + 1) x := by
  rcases h with ⟨h1, h2⟩ | ⟨v, h1, h2, h3⟩
  · refine .inl ⟨h1, fun v hv => ?_⟩
    by_cases e : v = k
    · rw [e]; exact hf (by omega)
    · exact h2 v (by omega)
  · exact .inr ⟨v, by omega, h2, h3⟩
theorem Nxt.yes {E : Nat → Nat → Bool} {n : Nat} {l : List Nat} {k : Nat} (h : Nxt E n l k (-1)) (hf : Free E n l k) : Nxt E n l (k + 1) k := by
  rcases h with ⟨h1, h2⟩ | ⟨v, h1, h2, h3⟩
  · exact .inr ⟨k, by omega, rfl, hf, fun x hx => h2 x hx⟩
  · omega
theorem Plc.put {n : Nat} {l : List Nat} {M : Nat → Bool} (h : Plc n l M) (k : Nat) : Plc n (l ++ [k]) (fun v => v == k || M v) := fun v hv => by
  rw [Bool.or_eq_true, beq_iff_eq, List.mem_append, List.mem_singleton, h v hv]
  exact Or.comm

set_option maxHeartbeats 8000000 in
set_option maxRecDepth 100000 in
theorem rorder_is (b n : Nat) (v : Value) (rw' : Nat → Nat) (L : Nat → Nat → Nat) (labels : Int) (w : World) (h : RefG w b n v rw' L) :
    Calls Tryd.prog 15 #[.pointer (some ⟨b, 0, none⟩), .int .i64 labels] w fun e w' => (∃ u l ok, e = .returned (.tuple #[u, .bool ok]) ∧ Ints w.heap.size w' u l ∧ IsOrder (edge L labels) n l ok) ∧ Below w.heap.size w w' := by
  have hn3 := h.bound
  have hmk := run_make_row' (P := Tryd.prog) 70 4 (.bool false) 1 Tryd.underlying70 Tryd.info4b rfl .i64 .i64 n (by omega) (by omega)
  rw [made_bl] at hmk
  have R := hid h
  have hni : (n : Int) ≤ 300 := by omega
  have hn0 : (0 : Int) ≤ n := by omega
  obtain ⟨ao, cap, hv, -⟩ := h.form
  have c0 := h.c0
  rw [hv] at c0
  have C0 := hid c0
  have c0a : ∀ o, (w.alloc o).cell? ⟨b, 0, none⟩ = some (.slice ao n cap) := fun o => Lib.cell?_alloc_some _ c0
  clear h hv
  go_enter Tryd.func15, Tryd.ntmps15
  go_wp2_with fail
  clear hmk c0 c0a
  have B0 : Hid (Below w.heap.size w (w.alloc (.cells (Array.replicate n (.bool false)) 4))) := below_box _ _
  have L0 : Hid (LayB (w.alloc (.cells (Array.replicate n (.bool false)) 4)) w.heap.size n (fun _ => false)) := ⟨_, heap_alloc_new w _, by simp, fun j hj => by simp [hj]⟩
  have Z0 : Hid (w.heap.size + 1 ≤ (w.alloc (.cells (Array.replicate n (.bool false)) 4)).heap.size) := by show _ ≤ _; simp
  generalize w.alloc (.cells (Array.replicate n (.bool false)) 4) = W0 at *
  go_loopg [7, 8, 23] n (fun g ov _ i wr => ∃ (l : List Nat) (M : Nat → Bool), l.length ≤ n ∧ n - l.length ≤ g ∧ i = .int .i64 l.length ∧ Aside (Beg (edge L labels) n l) ∧ Aside (Plc n l M) ∧ Aside (LayB wr w.heap.size n M) ∧ Aside (Ints (w.heap.size + 1) wr ov l) ∧ Aside (Below w.heap.size w wr) ∧ Aside (w.heap.size + 1 ≤ wr.heap.size))
  case atStart => exact ⟨[], _, Nat.zero_le _, by simp, rfl, Beg.nil _ _, fun v hv => by simp, L0.out, World.ownsRow_nil _ _ _ _, B0.out, Z0.out⟩
  case round =>
    clear L0 B0 Z0
    obtain ⟨l, M, hl, hg, rfl, BG, PC, LX, OX, BX, ZX⟩ := hrel
    by_cases hlt : l.length < n
    · have hlti : (l.length : Int) < n := by omega
      obtain ⟨oa, oc, rfl⟩ := OX.out.form
      have c0 : wr.cell? ⟨b, 0, none⟩ = some (.slice ao n cap) := (BX.out.cell (p := ⟨b, 0, none⟩) (World.block_lt_of_cell? _ _ C0.out)).trans C0.out
      go_wp2_with fail
      clear c0
      generalize wr = wo at *
      go_loopg [8, 9, 30] n (fun g2 xv _ i wr => ∃ (k : Nat) (x : Int), k ≤ n ∧ n - k ≤ g2 ∧ i = .int .i64 k ∧ xv = .int .i64 x ∧ Aside (Nxt (edge L labels) n l k x) ∧ wo = wr)
      case atStart => exact ⟨0, -1, Nat.zero_le _, by omega, rfl, rfl, .inl ⟨rfl, fun v hv => by omega⟩, rfl⟩
      case round =>
        obtain ⟨k, x, hk, hg2, rfl, rfl, NX, rfl⟩ := hrel
        by_cases hkn : k < n
        · have hkni : (k : Int) < n := by omega
          obtain ⟨cm', -⟩ := LX.out.cell k hkn
          have PF := hid (PC.out.free (E := edge L labels) hkn)
          cases hMk : M k with
          | true =>
            rw [hMk] at cm' PF
            have N2 := hid (NX.out.no (fun _ hf => by have := PF.out.2 hf; cases this))
            clear hMk PF
            go_wp2_with fail
            go_roundg (n - (k + 1))
            · exact ⟨k + 1, x, by omega, by omega, by go_num, rfl, N2.out, rfl⟩
            · omega
          | false =>
            rw [hMk] at cm' PF
            by_cases hx : x < 0
            · have ex : x = -1 := by
                rcases NX.out with ⟨h1, _⟩ | ⟨v, h1, h2, _⟩
                · exact h1
                · omega
              subst ex
              have FR := hid (rfree_is b n v rw' L labels k w.heap.size M wo (R.out.later BX.out) hkn LX.out)
              cases hfr : frB (edge L labels) M k n with
              | true =>
                rw [hfr] at FR PF
                have N2 := hid (NX.out.yes (PF.out.1 rfl))
                clear hMk PF hfr NX
                go_wp2_with (go_at_call 35; refine FR.out.mono ?_; rintro e w' ⟨rfl, rfl⟩)
                go_roundg (n - (k + 1))
                · exact ⟨k + 1, k, by omega, by omega, by go_num, rfl, N2.out, rfl⟩
                · omega
              | false =>
                rw [hfr] at FR PF
                have N2 := hid (NX.out.no (fun _ hf => by have := PF.out.2 hf; cases this))
                clear hMk PF hfr NX
                go_wp2_with (go_at_call 35; refine FR.out.mono ?_; rintro e w' ⟨rfl, rfl⟩)
                go_roundg (n - (k + 1))
                · exact ⟨k + 1, -1, by omega, by omega, by go_num, rfl, N2.out, rfl⟩
                · omega
            · have N2 := hid (NX.out.no (fun c => absurd c hx))
              clear hMk PF NX
              go_wp2_with fail
              go_roundg (n - (k + 1))
              · exact ⟨k + 1, x, by omega, by omega, by go_num, rfl, N2.out, rfl⟩
              · omega
        · have hkni : ¬ (k : Int) < n := by omega
          obtain rfl : n = k := by omega
          rcases NX.out with ⟨rfl, hno⟩ | ⟨y, hy, rfl, hpk⟩
          · have IOx : Hid (IsOrder (edge L labels) n [] false) := .inr ⟨rfl, rfl, l, BG.out, hlt, fun v hf => hno v hf.1 hf⟩
            clear hno NX
            go_wp2_with fail
            refine bodyPost_ret (v := .tuple #[.slice none 0 0, .bool false]) (by simp [results, Tryd.results15, go_sem]) rfl ?_
            first | exact ⟨⟨_, [], false, rfl, World.ownsRow_nil _ _ _ _, IOx.out⟩, BX.out⟩ | exact ⟨⟨_, [], .inl ⟨rfl, World.ownsRow_nil _ _ _ _, IOx.out⟩⟩, BX.out⟩
          · have hyi : (y : Int) < n := by omega
            have hy0 : ¬ (y : Int) < 0 := by omega
            obtain ⟨cy, fy⟩ := LX.out.cell y hy
            have BS := hid (BG.out.snoc hpk)
            have PS := hid (PC.out.put y)
            have LA : Hid (LayB ((wo.setCell ⟨w.heap.size, y, none⟩ (.bool true)).alloc (.cells #[.int .i64 y] 3)) w.heap.size n (fun v => v == y || M v)) := (LX.out.put y hy).later (below_box _ _)
            have OA : Hid (Ints (w.heap.size + 1) ((wo.setCell ⟨w.heap.size, y, none⟩ (.bool true)).alloc (.cells #[.int .i64 y] 3)) (.slice oa l.length oc) l) := (OX.out.set _ _ _ (by omega)).later (below_box _ _)
            have BA : Hid (Below w.heap.size w ((wo.setCell ⟨w.heap.size, y, none⟩ (.bool true)).alloc (.cells #[.int .i64 y] 3))) := (BX.out.setCell (Nat.le_refl _) _).trans ((below_box _ _).mono (by have := BX.out.size; simp; omega))
            have CA : Hid (((wo.setCell ⟨w.heap.size, y, none⟩ (.bool true)).alloc (.cells #[.int .i64 y] 3)).cell? ⟨wo.heap.size, 0, none⟩ = some (.int .i64 y)) := by
              have := new_cells (wo.setCell ⟨w.heap.size, y, none⟩ (.bool true)) #[.int .i64 y] 3 0
              exact hid (by simpa using this)
            have ZA : Hid (w.heap.size + 1 ≤ ((wo.setCell ⟨w.heap.size, y, none⟩ (.bool true)).alloc (.cells #[.int .i64 y] 3)).heap.size) := by have := ZX.out; show _ ≤ _; simp; omega
            clear hpk NX LX OX BX ZX PC BG
            go_wp2_with (at_builtin; refine wpList_append_ints _ rfl _ _ rfl (w.heap.size + 1) ZA.out _ l rfl OA.out wo.heap.size y 1 rfl CA.out (by omega) ?_; intro gb cap' w6 o6 g6; have O6 := hid o6; have L6 := hid (LA.out.gro g6 (by omega)); have B6 := hid (BA.out.trans (g6.below w.heap.size (fun x hx => by omega) BA.out.size)); have Z6 : Hid (w.heap.size + 1 ≤ w6.heap.size) := Nat.le_trans ZA.out g6.size; clear o6 g6)
            go_roundg (n - (l ++ [y]).length)
            · exact ⟨l ++ [y], _, by simp; omega, Nat.le_refl _, by simp, BS.out, PS.out, L6.out, (by have h := O6.out; exact h), B6.out, Z6.out⟩
            · simp; omega
    · have hlti : ¬ (l.length : Int) < n := by omega
      have IOx : Hid (IsOrder (edge L labels) n l true) := .inl ⟨rfl, BG.out, by omega⟩
      obtain ⟨oa, oc, rfl⟩ := OX.out.form
      have OF : Hid (Ints w.heap.size wr (.slice oa l.length oc) l) := by
        have h := OX.out
        refine ⟨h.1, ?_⟩
        rcases h.2 with h1 | ⟨g, cap, cur, q1, q2, q3⟩
        · exact .inl h1
        · exact .inr ⟨g, cap, cur, q1, by omega, q3⟩
      go_wp2_with fail
      refine bodyPost_ret (v := .tuple #[.slice oa l.length oc, .bool true]) (by simp [results, Tryd.results15, go_sem]) rfl ?_
      first | exact ⟨⟨_, l, true, rfl, OF.out, IOx.out⟩, BX.out⟩ | exact ⟨⟨_, l, .inr ⟨rfl, OF.out, IOx.out⟩⟩, BX.out⟩
theorem rcyc_is (b n : Nat) (v : Value) (rw' : Nat → Nat) (L : Nat → Nat → Nat) (labels : Int) (w : World) (h : RefG w b n v rw' L) :
    Calls Tryd.prog 17 #[.pointer (some ⟨b, 0, none⟩), .int .i64 labels] w fun e w' => (∃ l ok, e = .returned (.bool (!ok)) ∧ IsOrder (edge L labels) n l ok) ∧ Below w.heap.size w w' := by
  have O := hid (rorder_is b n v rw' L labels w h)
  clear h
  go_enter Tryd.func17, Tryd.ntmps17
  go_wp2_with (go_at_call 15; refine O.out.mono ?_; rintro e w1 ⟨⟨u, l, ok, rfl, hi, io⟩, bl⟩; have IOx := hid io; have BL := hid bl; clear hi io bl)
  go_ret
  exact ⟨⟨l, ok, rfl, IOx.out⟩, BL.out⟩
end Go.Proofs.YtjgmkigfpjmlaaaDoor
