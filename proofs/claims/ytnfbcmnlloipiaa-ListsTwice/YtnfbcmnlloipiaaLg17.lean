/-
  A look's anomalies; trusted, Trace and Anomalies of any made table.
-/
import Derived.Test.YtnfbcmnlloipiaaLg16
import Derived.Test.YtnfbcmnlloipiaaLg13
import Derived.Test.YtnfbcmnlloipiaaLs0
namespace Go.Proofs.Ytnfbcmnlloipiaa
set_option linter.unusedVariables false
set_option linter.unusedSimpArgs false
open Go.RowKit Go.Lib Go.Maps
open Tx (MTxn OpsOwn RowsIn.cells)

/-- Transactions within the bounds. -/
structure Good (l : List MTxn) : Prop where
  len : l.length ≤ 1000
  ten : ∀ t ∈ l, t.ops.length ≤ 10
  ok : ∀ t ∈ l, ∀ o ∈ t.ops, OpOk o
  wl : ∀ t ∈ l, ∀ o ∈ t.ops, ∀ x ∈ o.list, (Lit.int .i64 x).wf = true
  sz : ∀ t ∈ l, ∀ o ∈ t.ops, o.list.length ≤ 100000
theorem notes_at {l : List MTxn} {x : MN} : ∀ n, x ∈ notes l n → x.1 < n ∧ x.2.1 < (l.getD x.1 default).ops.length ∧ x.2.2 = (l.getD x.1 default).ops.getD x.2.1 default
  | 0, h => by simp [notes] at h
  | n + 1, h => by
    have e : notes l (n + 1) = notes l n ++ notesT n (l.getD n default).ops := rfl
    rw [e, List.mem_append] at h
    rcases h with h | h
    · have := notes_at n h
      exact ⟨by omega, this.2⟩
    · unfold notesT at h
      obtain ⟨i, hi, rfl⟩ := List.mem_map.1 h
      exact ⟨by show n < n + 1; omega, List.mem_range.1 hi, rfl⟩
theorem notes_op {l : List MTxn} {x : MN} (h : x ∈ notes l l.length) : ∃ t ∈ l, x.2.2 ∈ t.ops := by
  obtain ⟨h1, h2, h3⟩ := notes_at _ h
  refine ⟨l.getD x.1 default, getD_mem l _ h1, ?_⟩
  rw [h3]
  exact getD_mem _ _ h2
theorem getD_len (l : List MTxn) (hten : ∀ t ∈ l, t.ops.length ≤ 10) (n : Nat) (h : n < l.length) : (l.getD n default).ops.length ≤ 10 := hten _ (getD_mem l n h)
section
variable {l : List MTxn} {s : ByteArray}
theorem Good.nlen (h : Good l) : (notes l l.length).length ≤ 10000 := by
  have := notes_len l h.ten l.length
  have := h.len
  omega
theorem Good.rlen (h : Good l) : (rdsN l s (notes l l.length)).length ≤ 10000 := Nat.le_trans (rds_len _ _ _) h.nlen
theorem Good.rop (h : Good l) {r : MRx} (hr : r ∈ rdsN l s (notes l l.length)) : (∀ x ∈ r.2.2, (Lit.int .i64 x).wf = true) ∧ r.2.2.length ≤ 100000 := by
  obtain ⟨x, hx, rfl⟩ := rds_mem hr
  obtain ⟨t, ht, ho⟩ := notes_op hx
  exact ⟨h.wl t ht _ ho, h.sz t ht _ ho⟩
theorem Good.trace (h : Good l) : (∀ x ∈ (knwN l s (notes l l.length)).ts, (Lit.int .i64 x).wf = true) ∧ (knwN l s (notes l l.length)).ts.length ≤ 100000 := by
  show (∀ x ∈ (longR (rdsN l s (notes l l.length))).2.2, _) ∧ (longR (rdsN l s (notes l l.length))).2.2.length ≤ _
  rcases long_in (rdsN l s (notes l l.length)) with e | e
  · rw [e]
    simp
  · exact h.rop e
theorem Good.src (h : Good l) (x : Int) : ((srcN l s (notes l l.length) x).getD noSrc).1 < 1000000 ∧ ((srcN l s (notes l l.length) x).getD noSrc).2.1 < 1000000 := by
  cases hc : srcN l s (notes l l.length) x with
  | none => exact ⟨by decide, by decide⟩
  | some y =>
    obtain ⟨z, hz, _, rfl⟩ := src_mem hc
    obtain ⟨h1, h2, _⟩ := notes_at _ hz
    have h3 := getD_len l h.ten _ h1
    have := h.len
    show z.1 < _ ∧ z.2.1 < _
    omega
end
/-- All that is wrong with the list s. -/
def anoN (l : List MTxn) (s : ByteArray) : List MAn := anoM (knwN l s (notes l l.length)) s (rdsN l s (notes l l.length))
theorem anoN_len {l : List MTxn} (h : Good l) (s : ByteArray) : (anoN l s).length ≤ 150000 := by
  have h1 := anoM_len (knwN l s (notes l l.length)) s (rdsN l s (notes l l.length))
  have h2 := h.rlen (s := s)
  have h3 := (h.trace (s := s)).2
  unfold anoN
  omega
/-- The anomalies of a look that lies in a block of its own. -/
theorem anoms_is (l : List MTxn) (hG : Good l) (s : ByteArray) (B kb sb n : Nat) (rv : Value) (R : List MRd) (t2 : Nat) (ta : Option Addr) (tc : Nat) (w : World) (h : Lg B w kb s rv R ((knwN l s (notes l l.length)).ti, t2, ta, (knwN l s (notes l l.length)).ts.length, tc) sb) (hR : Rds w R (rdsN l s (notes l l.length))) (hts : IntsIn Any w (.slice ta (knwN l s (notes l l.length)).ts.length tc) (knwN l s (notes l l.length)).ts) (hs : Sc w sb n (srcN l s (notes l l.length))) : Calls Try.prog 42 #[.pointer (some ⟨kb, 0, none⟩)] w fun e w' => ∃ v, e = .returned v ∧ w'.ownsRow (w.heap.size + 1) 85 9 v (anoN l s).length (ansC (anoN l s)) ∧ Below w.heap.size w w' :=
  anomalies_is (knwN l s (notes l l.length)) B kb sb n s rv R (rdsN l s (notes l l.length)) t2 ta tc w h hR (by have := hG.rlen (s := s); omega) hts hG.trace.1 hG.trace.2 (fun r hr => long_max hr) hs (fun x => hG.src x)
def tellN (l : List MTxn) (s : ByteArray) : Prop := kindN (notes l l.length) s = 1 ∧ uniqN (notes l l.length)
set_option maxHeartbeats 2000000 in
set_option maxRecDepth 100000 in
theorem look_un (B tb : Nat) (l : List MTxn) (s : ByteArray) (w : World) (h : Made B w tb l) (hs : s.size ≤ maxLen) (hn : ¬ tellN l s) : Calls Try.prog 41 #[.pointer (some ⟨tb, 0, none⟩), .string s] w fun e w' => e = .returned (.tuple #[noLook, .bool false]) ∧ Below w.heap.size w w' := by
  have KI : ∀ o, Hid (Calls Try.prog 65 #[.pointer (some ⟨tb, 0, none⟩), .string s] (w.alloc o) fun e w' => e = .returned (.int .i64 (kindN (notes l l.length) s)) ∧ w.alloc o = w') := fun o => tkind_is B _ tb l (h.later (below_box w o)) s hs
  have UN : ∀ o, Hid (Calls Try.prog 66 #[.pointer (some ⟨tb, 0, none⟩)] (w.alloc o) fun e w' => ∃ u : Bool, e = .returned (.bool u) ∧ (u = true ↔ uniqN (notes l l.length)) ∧ w.alloc o = w') := fun o => uniq_is B _ tb l (h.later (below_box w o))
  unfold tellN at hn
  clear h
  generalize notes l l.length = N at *
  by_cases hk : kindN N s = 1
  · have hu : ¬ uniqN N := fun c => hn ⟨hk, c⟩
    rw [hk] at KI
    have UF : ∀ o, Hid (Calls Try.prog 66 #[.pointer (some ⟨tb, 0, none⟩)] (w.alloc o) fun e w' => e = .returned (.bool false) ∧ w.alloc o = w') := fun o => (UN o).out.mono (fun e w' q => by
      obtain ⟨u, rfl, h2, h3⟩ := q
      cases u with
      | true => exact absurd (h2.1 rfl) hu
      | false => exact ⟨rfl, h3⟩)
    clear hn hk hu UN
    go_enter Try.func41, Try.ntmps41
    go_wp2_with (first | (go_at_call 65; refine (KI _).out.mono ?_; rintro e w' ⟨rfl, rfl⟩) | (go_at_call 66; refine (UF _).out.mono ?_; rintro e w' ⟨rfl, rfl⟩))
    exact bodyPost_ret (v := .tuple #[noLook, .bool false]) (by simp [results, Try.results41, go_sem]) rfl ⟨rfl, below_box w _⟩
  · have hkb : (kindN N s == (1 : Int)) = false := by simpa using hk
    generalize kindN N s = kk at *
    clear hn UN
    go_enter Try.func41, Try.ntmps41
    go_wp2_with (go_at_call 65; refine (KI _).out.mono ?_; rintro e w' ⟨rfl, rfl⟩)
    exact bodyPost_ret (v := .tuple #[noLook, .bool false]) (by simp [results, Try.results41, go_sem]) rfl ⟨rfl, below_box w _⟩
/-- Nothing is told of the key. -/
def Untold (v : Value) (s : ByteArray) (w : World) : Prop := ∀ W, Below w.heap.size w W → Calls Try.prog 41 #[v, .string s] W fun e w' => e = .returned (.tuple #[noLook, .bool false]) ∧ Below W.heap.size W w'
theorem Untold.later {v : Value} {s : ByteArray} {w W : World} (h : Untold v s w) (hb : Below w.heap.size w W) : Untold v s W := fun W' hb' => h W' (hb.trans (hb'.mono hb.size))
set_option maxHeartbeats 2000000 in
set_option maxRecDepth 100000 in
theorem trusted_un (v : Value) (s : ByteArray) (w : World) (h : Untold v s w) : Calls Try.prog 34 #[v, .string s] w fun e w' => e = .returned (.tuple #[noLook, .bool false]) ∧ Below w.heap.size w w' := by
  have HN : ∀ o, Hid (Untold v s (w.alloc o)) := fun o => h.later (below_box w o)
  clear h
  go_enter Try.func34, Try.ntmps34
  go_wp2_with (go_at_call 41; refine ((HN _).out _ (Below.refl _ _)).mono ?_; rintro e w1 ⟨rfl, b1⟩; obtain ⟨hs1, c0, fz, b1⟩ := box_later b1; have B1 := hid b1; have y0 := c0 0; have y1 := c0 1; have y2 := c0 2; have y3 := c0 3; have y4 := c0 4; have y5 := c0 5; simp only [List.getElem?_toArray, List.getElem?_cons_zero, List.getElem?_cons_succ] at y0 y1 y2 y3 y4 y5; clear b1 c0 HN)
  rw [Tx.setCell_self y0, Tx.setCell_self y1, Tx.setCell_self y2, Tx.setCell_self y3, Tx.setCell_self y4, Tx.setCell_self y5]
  have al : ∀ (i : Nat) (u : Value), w1.cell? ⟨w.heap.size, i, none⟩ = some u → (w1.alloc (.cells #[.string ⟨#[]⟩, .slice none 0 0, .int .i64 0, .int .i64 0, .slice none 0 0, .map none] 80)).cell? ⟨w.heap.size, i, none⟩ = some u := fun i u h => Lib.cell?_alloc_some _ h
  have z0 := al 0 _ y0
  have z1 := al 1 _ y1
  have z2 := al 2 _ y2
  have z3 := al 3 _ y3
  have z4 := al 4 _ y4
  have z5 := al 5 _ y5
  exact bodyPost_ret (v := .tuple #[noLook, .bool false]) (by simp [results, Try.results34, go_sem, z0, z1, z2, z3, z4, z5]) rfl ⟨rfl, B1.out.trans ((below_box w1 _).mono B1.out.size)⟩
set_option maxHeartbeats 2000000 in
set_option maxRecDepth 100000 in
theorem anom_un (v : Value) (s : ByteArray) (w : World) (h : Untold v s w) : Calls Try.prog 15 #[v, .string s] w fun e w' => e = .returned (.slice none 0 0) ∧ Below w.heap.size w w' := by
  have HN := hid h
  clear h
  go_enter Try.func15, Try.ntmps15
  go_wp2_with (go_at_call 41; refine (HN.out _ (Below.refl _ _)).mono ?_; rintro e w1 ⟨rfl, b1⟩; have B1 := hid b1; clear b1 HN)
  go_ret
  exact ⟨rfl, B1.out.trans ((below_box w1 _).mono B1.out.size)⟩
/-- No trace can be trusted. -/
def Untrue (v : Value) (s : ByteArray) (w : World) : Prop := ∀ W, Below w.heap.size w W → Calls Try.prog 34 #[v, .string s] W fun e w' => e = .returned (.tuple #[noLook, .bool false]) ∧ Below W.heap.size W w'
theorem Untold.untrue {v : Value} {s : ByteArray} {w : World} (h : Untold v s w) : Untrue v s w := fun W hb => trusted_un v s W (h.later hb)
set_option maxHeartbeats 2000000 in
set_option maxRecDepth 100000 in
theorem trace_un (v : Value) (s : ByteArray) (w : World) (h : Untrue v s w) : Calls Try.prog 12 #[v, .string s] w fun e w' => e = .returned (.tuple #[.slice none 0 0, .bool false]) ∧ Below w.heap.size w w' := by
  have HN := hid h
  clear h
  go_enter Try.func12, Try.ntmps12
  go_wp2_with (go_at_call 34; refine (HN.out _ (Below.refl _ _)).mono ?_; rintro e w1 ⟨rfl, b1⟩; have B1 := hid b1; clear b1 HN)
  go_ret2
  exact ⟨rfl, B1.out.trans ((below_box w1 _).mono B1.out.size)⟩
set_option maxHeartbeats 2000000 in
set_option maxRecDepth 100000 in
theorem edges_un (v : Value) (s : ByteArray) (w : World) (h : Untrue v s w) : Calls Try.prog 19 #[v, .string s] w fun e w' => e = .returned (.slice none 0 0) ∧ Below w.heap.size w w' := by
  have HN := hid h
  clear h
  go_enter Try.func19, Try.ntmps19
  go_wp2_with (go_at_call 34; refine (HN.out _ (Below.refl _ _)).mono ?_; rintro e w1 ⟨rfl, b1⟩; have B1 := hid b1; clear b1 HN)
  go_ret
  exact ⟨rfl, B1.out.trans ((below_box w1 _).mono B1.out.size)⟩
end Go.Proofs.Ytnfbcmnlloipiaa
