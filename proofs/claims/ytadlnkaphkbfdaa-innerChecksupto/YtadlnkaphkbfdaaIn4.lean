/-
  with: what is known behind an operation.
-/
import Derived.Test.YtadlnkaphkbfdaaIn3
import Derived.Lib.Builder
import Derived.Lib.SmallJoins
namespace Go.Proofs.Ytadlnkaphkbfdaa
set_option linter.unusedVariables false
set_option linter.unusedSimpArgs false
open Go.RowKit Go.Lib

theorem own_same {B : Nat} {w w' : World} {e : TypeId} {z n : Nat} {v : Value} {xs : List Value} (h : w.ownsRow B e z v n xs) (hs : ∀ g, v.ownBlock = some g → w'.heap[g]? = w.heap[g]?) : w'.ownsRow B e z v n xs := by
  refine ⟨h.1, ?_⟩
  rcases h.2 with h1 | ⟨g, cap, cur, hv, hg, hh, hr⟩
  · exact .inl h1
  · exact .inr ⟨g, cap, cur, hv, hg, (hs g (by rw [hv]; rfl)).trans hh, hr⟩
theorem own_mono {B B' : Nat} {w : World} {e : TypeId} {z n : Nat} {v : Value} {xs : List Value} (h : w.ownsRow B e z v n xs) (hB : B' ≤ B) : w.ownsRow B' e z v n xs := by
  refine ⟨h.1, ?_⟩
  rcases h.2 with h1 | ⟨g, cap, cur, hv, hg, hh, hr⟩
  · exact .inl h1
  · exact .inr ⟨g, cap, cur, hv, Nat.le_trans hB hg, hh, hr⟩
theorem own_slice {B : Nat} {w : World} {e : TypeId} {z n : Nat} {v : Value} {xs : List Value} (h : w.ownsRow B e z v n xs) : ∃ a c, v = .slice a n c := by
  rcases h.2 with ⟨hv, hn⟩ | ⟨g, cap, cur, hv, _⟩
  · exact ⟨none, 0, by rw [hv, hn]⟩
  · exact ⟨_, cap, hv⟩
theorem own_block {B : Nat} {w : World} {e : TypeId} {z n g : Nat} {v : Value} {xs : List Value} (h : w.ownsRow B e z v n xs) (hg : v.ownBlock = some g) : B ≤ g ∧ g < w.heap.size ∧ ∃ cs, w.heap[g]? = some (.cells cs e) := by
  rcases h.2 with ⟨hv, hn⟩ | ⟨g', cap, cur, hv, hB, hh, hr⟩
  · rw [hv] at hg
    cases hg
  · rw [hv] at hg
    have : g' = g := by simpa [Value.ownBlock] using hg
    subst this
    exact ⟨hB, blt hh, _, hh⟩
theorem alloc_at (w : World) (o : Obj) (b : Nat) : (w.alloc o).heap[b]? = if b = w.heap.size then some o else w.heap[b]? := by
  show (w.heap.push o)[b]? = _
  rw [Array.getElem?_push]
theorem alloc_size (w : World) (o : Obj) : (w.alloc o).heap.size = w.heap.size + 1 := by
  show (w.heap.push o).size = _
  rw [Array.size_push]
theorem set_ne {w : World} {p : Addr} {v : Value} {g : Nat} (h : g ≠ p.block) : (w.setCell p v).heap[g]? = w.heap[g]? := by
  unfold World.setCell
  simp [Array.getElem?_modify]
  intro c
  exact absurd c.symm h
theorem set_gro {P : Nat → Prop} {w w' : World} {p : Addr} {v : Value} (h : Gro P w w') (hp : w.heap.size ≤ p.block) : Gro P w (w'.setCell p v) :=
  ⟨h.os, h.tape, h.output, by have := h.size; simpa [World.setCell] using this, fun b hb hn => (set_ne (by omega)).trans (h.block b hb hn)⟩
/-- What with hands back. -/
def WithPost (B : Nat) (k : Kn) (sl : Value) (o : MOp) (w : World) (e : Ending) (w' : World) : Prop :=
  ∃ sl', e = .returned (knV (k.wit o) sl') ∧ w'.ownsRow B 3 1 sl' (k.wit o).list.length ((k.wit o).list.map (Value.int .i64)) ∧ (∀ g, sl'.ownBlock = some g → sl.ownBlock = some g ∨ w.heap.size ≤ g) ∧ Gro (fun b => sl.ownBlock = some b) w w'

set_option maxHeartbeats 2000000 in
set_option maxRecDepth 100000 in
theorem with_append (B : Nat) (k : Kn) (sl : Value) (o : MOp) (lv : Value) (w : World) (h1 : w.ownsRow B 3 1 sl k.list.length (k.list.map (Value.int .i64))) (hB : B ≤ w.heap.size) (hn : k.list.length ≤ 1099511627776) (ho : o.kind = 1) :
    Calls Try.prog 35 #[knV k sl, opV o lv] w fun e w' => WithPost B k sl o w e w' := by
  obtain ⟨i0, hi, hz0, hz1, hz2⟩ := info_parts Try.infoInt
  obtain ⟨a, c, hsl⟩ := own_slice h1
  have OB := hid (fun g hg => own_block h1 (g := g) hg)
  have O1 := hid h1
  obtain ⟨ok, os, ox, ol, oh, on⟩ := o
  obtain ⟨kw, kl, kn, kv⟩ := k
  unfold WithPost opV knV Kn.wit
  simp only [MOp.kind, MOp.key, MOp.value, MOp.list, MOp.has, MOp.nl] at *
  subst ho
  simp only [if_true]
  obtain ⟨n, hnn⟩ : ∃ n, kl.length = n := ⟨_, rfl⟩
  have HN := hid hnn
  rw [hnn] at O1 hsl hn
  subst hsl
  clear h1 hnn
  have HI := hid hi
  have HZ0 := hid hz0
  have HZ1 := hid hz1
  have HZ2 := hid hz2
  clear hi hz0 hz1 hz2
  go_enter Try.func35, Try.ntmps35
  go_wp2_with (at_builtin; refine wpList_append_lies _ rfl _ _ 26 rfl B 3 i0 (.int .i64 0) 1 8 Try.underlying26 HI.out HZ0.out HZ1.out HZ2.out rfl (by decide) (.slice a n c) n (kl.map (Value.int .i64)) rfl ?hown ⟨w.heap.size + 3, 0, none⟩ 1 1 [.int .i64 ox] rfl rfl ?hnews ?hone (by decide) ?h63 ?hby ?hbase (w.heap.size + 4) ?hH ?_)
  case hown => exact World.ownsRow.alloc (World.ownsRow.alloc (World.ownsRow.alloc (World.ownsRow.alloc O1.out _) _) _) _
  case hnews => exact World.news_of_block (cs := #[.int .i64 ox]) (t := 3) (fr := (0, 0)) (by rw [alloc_at, alloc_size, alloc_size, alloc_size, if_pos rfl])
  case hone => intro u hu; simp at hu; rw [hu]; rfl
  case h63 => unfold maxLen; omega
  case hby => omega
  case hbase => simp; omega
  case hH => simp
  intro g cap w4 hown4 hgrow hat hglt
  have e0 : w4.heap[w.heap.size]? = some (.cells #[.bool kw, .slice a n c, .bool kn, .int .i64 kv] 61) := (hgrow.block w.heap.size (by simp only [alloc_size]; omega) (fun e => by have := (OB.out _ e.symm).2.1; omega)).trans (by simp only [alloc_at, alloc_size]; rw [if_neg (by omega), if_neg (by omega), if_neg (by omega), if_pos trivial])
  have e2 : w4.heap[w.heap.size + 1 + 1]? = some (.cells #[.bool false, .slice none 0 0, .bool false, .int .i64 0] 61) := (hgrow.block (w.heap.size + 1 + 1) (by simp only [alloc_size]; omega) (fun e => by have := (OB.out _ e.symm).2.1; omega)).trans (by simp only [alloc_at, alloc_size]; rw [if_neg (by omega), if_pos trivial])
  have hgr : Hid (Gro (fun b => (Value.slice a n c).ownBlock = some b) w w4) := ⟨hgrow.os, hgrow.tape, hgrow.output, by have := hgrow.size; simp only [alloc_size] at this; omega, fun b hb hne => (hgrow.block b (by simp only [alloc_size]; omega) (fun e => hne e.symm)).trans (by simp only [alloc_at, alloc_size]; rw [if_neg (by omega), if_neg (by omega), if_neg (by omega), if_neg (by omega)])⟩
  have hsz : Hid (w.heap.size + 4 ≤ w4.heap.size) := by have h := hgrow.size; simp only [alloc_size] at h; exact h
  have HO := hid hown4
  have HA := hid hat
  clear hown4 hgrow hat hglt
  have c0 := Lib.cell_of_heap e0 0
  have c1 := Lib.cell_of_heap e0 1
  have c2 := Lib.cell_of_heap e0 2
  have c3 := Lib.cell_of_heap e0 3
  have f0 := Lib.frozen_of_heap e0 1
  have z0 := Lib.frozen_of_heap e2 0
  have z1 := Lib.frozen_of_heap e2 1
  have z2 := Lib.frozen_of_heap e2 2
  have z3 := Lib.frozen_of_heap e2 3
  have y0 := Lib.cell_of_heap e2 0
  have y1 := Lib.cell_of_heap e2 1
  have y2 := Lib.cell_of_heap e2 2
  have y3 := Lib.cell_of_heap e2 3
  simp at y0 y1 y2 y3
  have E0 := hid e0
  have E2 := hid e2
  simp at c0 c1 c2 c3
  have e5 := Go.Joins.block_setCell (i := 1) e0 (.slice (some ⟨g, 0, none⟩) (n + 1) cap)
  have d0 := Lib.cell_of_heap e5 0
  have d1 := Lib.cell_of_heap e5 1
  have d2 := Lib.cell_of_heap e5 2
  have d3 := Lib.cell_of_heap e5 3
  simp at d0 d1 d2 d3
  clear e0 e2 e5
  go_wp2_with fail
  refine bodyPost_ret (v := .agg #[.bool kw, .slice (some ⟨g, 0, none⟩) (n + 1) cap, .bool kn, .int .i64 kv]) (by simp [results, Try.results35, go_sem, *]) rfl ⟨_, rfl, ?_, ?_, ?_⟩
  · have hl : (kl ++ [ox]).length = n + 1 := by rw [List.length_append, HN.out]; rfl
    rw [hl, List.map_append]
    refine own_same HO.out (fun g' hg' => ?_)
    have hge : g' = g := by simpa [Value.ownBlock] using hg'.symm
    subst hge
    have h3 : g' ≠ w.heap.size ∧ g' ≠ w.heap.size + 1 + 1 := by
      rcases HA.out with h | h
      · have := (OB.out _ h).2.1; omega
      · omega
    rw [set_ne h3.2, set_ne h3.2, set_ne h3.2, set_ne h3.2, set_ne h3.1]
  · intro g' hg'
    have hge : g' = g := by simpa [Value.ownBlock] using hg'.symm
    subst hge
    rcases HA.out with h | h
    · exact .inl h
    · exact .inr (by omega)
  · exact set_gro (set_gro (set_gro (set_gro (set_gro hgr.out (Nat.le_refl _)) (by show _ ≤ w.heap.size + 1 + 1; omega)) (by show _ ≤ w.heap.size + 1 + 1; omega)) (by show _ ≤ w.heap.size + 1 + 1; omega)) (by show _ ≤ w.heap.size + 1 + 1; omega)

theorem gro_below {P : Nat → Prop} {w w' : World} (h : Below w.heap.size w w') : Gro P w w' := ⟨h.os, h.tape, h.output, h.size, fun k hk _ => h.block k hk⟩
theorem three_box (w : World) (o1 o2 o3 : Obj) : Below w.heap.size w (((w.alloc o1).alloc o2).alloc o3) := (two_box w _ _).trans ((below_box _ _).mono (by simp only [alloc_size]; omega))

set_option maxHeartbeats 2000000 in
set_option maxRecDepth 100000 in
theorem with_write (B : Nat) (k : Kn) (sl : Value) (o : MOp) (lv : Value) (w : World) (ho : o.kind = 3) :
    Calls Try.prog 35 #[knV k sl, opV o lv] w fun e w' => WithPost B k sl o w e w' := by
  obtain ⟨ok, os, ox, ol, oh, on⟩ := o
  obtain ⟨kw, kl, kn, kv⟩ := k
  unfold WithPost opV knV Kn.wit
  simp only [MOp.kind, MOp.key, MOp.value, MOp.list, MOp.has, MOp.nl] at *
  subst ho
  rw [if_neg (by decide), if_pos rfl]
  go_enter Try.func35, Try.ntmps35
  go_wp2_with fail
  refine bodyPost_ret (v := .agg #[.bool true, .slice none 0 0, .bool false, .int .i64 ox]) (by simp [results, Try.results35, go_sem]) rfl ⟨_, rfl, World.ownsRow_nil _ _ _ _, (fun g hg => by simp [Value.ownBlock] at hg), gro_below (three_box w _ _ _)⟩
theorem three_at (w : World) (o1 o2 o3 : Obj) {w1 : World} (b : Below (((w.alloc o1).alloc o2).alloc o3).heap.size (((w.alloc o1).alloc o2).alloc o3) w1) :
    w1.heap[w.heap.size]? = some o1 ∧ w1.heap[w.heap.size + 1]? = some o2 ∧ w1.heap[w.heap.size + 1 + 1]? = some o3 ∧ Below w.heap.size w w1 := by
  have hs : (((w.alloc o1).alloc o2).alloc o3).heap.size = w.heap.size + 1 + 1 + 1 := by simp only [alloc_size]
  refine ⟨?_, ?_, ?_, (three_box w o1 o2 o3).trans (b.mono (by rw [hs]; omega))⟩
  · rw [b.block _ (by rw [hs]; omega)]
    simp only [alloc_at, alloc_size]
    rw [if_neg (by omega), if_neg (by omega), if_pos trivial]
  · rw [b.block _ (by rw [hs]; omega)]
    simp only [alloc_at, alloc_size]
    rw [if_neg (by omega), if_pos trivial]
  · rw [b.block _ (by rw [hs]; omega)]
    simp only [alloc_at, alloc_size]
    rw [if_pos trivial]
theorem set4_gro {P : Nat → Prop} {w w' : World} {p : Nat} {v0 v1 v2 v3 : Value} (h : Gro P w w') (hp : w.heap.size ≤ p) : Gro P w ((((w'.setCell ⟨p, 0, none⟩ v0).setCell ⟨p, 1, none⟩ v1).setCell ⟨p, 2, none⟩ v2).setCell ⟨p, 3, none⟩ v3) :=
  set_gro (set_gro (set_gro (set_gro h hp) hp) hp) hp
theorem set4_ne {w' : World} {p g : Nat} {v0 v1 v2 v3 : Value} (h : g ≠ p) : ((((w'.setCell ⟨p, 0, none⟩ v0).setCell ⟨p, 1, none⟩ v1).setCell ⟨p, 2, none⟩ v2).setCell ⟨p, 3, none⟩ v3).heap[g]? = w'.heap[g]? := by
  rw [set_ne h, set_ne h, set_ne h, set_ne h]

set_option maxHeartbeats 2000000 in
set_option maxRecDepth 100000 in
theorem with_get (B : Nat) (k : Kn) (sl : Value) (o : MOp) (lv : Value) (w : World) (ho : o.kind = 4) (hr : rds o = true) :
    Calls Try.prog 35 #[knV k sl, opV o lv] w fun e w' => WithPost B k sl o w e w' := by
  have R := hid (reads_is o lv)
  unfold WithPost knV Kn.wit
  rw [if_neg (by omega), if_neg (by omega), if_pos hr, if_neg (by omega)]
  rw [hr] at R
  clear hr
  obtain ⟨ok, os, ox, ol, oh, on⟩ := o
  obtain ⟨kw, kl, kn, kv⟩ := k
  unfold opV at *
  simp only [MOp.kind, MOp.key, MOp.value, MOp.list, MOp.has, MOp.nl] at *
  subst ho
  go_enter Try.func35, Try.ntmps35
  go_wp2_with fail
  go_at_call 33
  refine (R.out _).mono ?_
  rintro e w1 ⟨rfl, b1⟩
  obtain ⟨h0, h1, h2, hb⟩ := three_at w _ _ _ b1
  have HB := hid hb
  have c2 := Lib.cell_of_heap h1 2
  have c5 := Lib.cell_of_heap h1 5
  have c0 := Lib.cell_of_heap h1 0
  have y0 := Lib.cell_of_heap h2 0
  have y1 := Lib.cell_of_heap h2 1
  have y2 := Lib.cell_of_heap h2 2
  have y3 := Lib.cell_of_heap h2 3
  have z0 := Lib.frozen_of_heap h2 0
  have z1 := Lib.frozen_of_heap h2 1
  have z2 := Lib.frozen_of_heap h2 2
  have z3 := Lib.frozen_of_heap h2 3
  simp at c0 c2 c5 y0 y1 y2 y3
  clear h0 h1 h2 hb b1
  go_wp2_with fail
  refine bodyPost_ret (v := .agg #[.bool true, .slice none 0 0, .bool on, .int .i64 ox]) (by simp [results, Try.results35, go_sem, *]) rfl ⟨_, rfl, World.ownsRow_nil _ _ _ _, (fun g hg => by simp [Value.ownBlock] at hg), set4_gro (gro_below HB.out) (by omega)⟩

set_option maxHeartbeats 2000000 in
set_option maxRecDepth 100000 in
theorem with_none (B : Nat) (k : Kn) (sl : Value) (o : MOp) (lv : Value) (w : World) (hO : w.ownsRow B 3 1 sl k.list.length (k.list.map (Value.int .i64))) (ho1 : o.kind ≠ 1) (ho3 : o.kind ≠ 3) (hr : rds o = false) :
    Calls Try.prog 35 #[knV k sl, opV o lv] w fun e w' => WithPost B k sl o w e w' := by
  have R := hid (reads_is o lv)
  have O1 := hid hO
  obtain ⟨sa, sn, sc, hsl⟩ : ∃ a n c, sl = .slice a n c := by obtain ⟨a, c, h⟩ := own_slice hO; exact ⟨a, _, c, h⟩
  unfold WithPost knV Kn.wit
  rw [if_neg ho1, if_neg ho3, if_neg (by rw [hr]; decide)]
  rw [hr] at R
  clear hr hO
  have OB := hid (fun g hg => (own_block O1.out (g := g) hg).2.1)
  obtain ⟨ok, os, ox, ol, oh, on⟩ := o
  obtain ⟨kw, kl, kn, kv⟩ := k
  unfold opV at *
  simp only [MOp.kind, MOp.key, MOp.value, MOp.list, MOp.has, MOp.nl] at *
  subst hsl
  have e1 : (ok == 1) = false := by simp [ho1]
  have e3 : (ok == 3) = false := by simp [ho3]
  clear ho1 ho3
  go_enter Try.func35, Try.ntmps35
  go_wp2_with fail
  go_at_call 33
  refine (R.out _).mono ?_
  rintro e w1 ⟨rfl, b1⟩
  obtain ⟨h0, h1, h2, hb⟩ := three_at w _ _ _ b1
  have HB := hid hb
  have c0 := Lib.cell_of_heap h0 0
  have c1 := Lib.cell_of_heap h0 1
  have c2 := Lib.cell_of_heap h0 2
  have c3 := Lib.cell_of_heap h0 3
  have y0 := Lib.cell_of_heap h2 0
  have y1 := Lib.cell_of_heap h2 1
  have y2 := Lib.cell_of_heap h2 2
  have y3 := Lib.cell_of_heap h2 3
  have z0 := Lib.frozen_of_heap h2 0
  have z1 := Lib.frozen_of_heap h2 1
  have z2 := Lib.frozen_of_heap h2 2
  have z3 := Lib.frozen_of_heap h2 3
  simp at c0 c1 c2 c3 y0 y1 y2 y3
  clear h0 h1 h2 hb b1
  go_wp2_with fail
  refine bodyPost_ret (v := .agg #[.bool kw, .slice sa sn sc, .bool kn, .int .i64 kv]) (by simp [results, Try.results35, go_sem, *]) rfl ⟨_, rfl, ?_, (fun g hg => .inl hg), set4_gro (gro_below HB.out) (by omega)⟩
  refine own_same O1.out (fun g hg => ?_)
  have := OB.out g hg
  rw [set4_ne (by omega), HB.out.block g this]

set_option maxHeartbeats 2000000 in
set_option maxRecDepth 100000 in
theorem with_read (B : Nat) (k : Kn) (sl : Value) (o : MOp) (lv : Value) (w : World) (hB : B ≤ w.heap.size) (hL : IntsIn Any w lv o.list) (ho : o.kind = 2) (hr : rds o = true) :
    Calls Try.prog 35 #[knV k sl, opV o lv] w fun e w' => WithPost B k sl o w e w' := by
  have R := hid (reads_is o lv)
  have L1 := hid hL
  obtain ⟨la, ln, lc, hlv⟩ : ∃ a n c, lv = .slice a n c := by obtain ⟨a, c, h, _⟩ := hL; exact ⟨a, _, c, h⟩
  unfold WithPost knV Kn.wit
  rw [if_neg (by omega), if_neg (by omega), if_pos hr, if_pos ho]
  rw [hr] at R
  clear hr hL
  obtain ⟨ok, os, ox, ol, oh, on⟩ := o
  obtain ⟨kw, kl, kn, kv⟩ := k
  unfold opV at *
  simp only [MOp.kind, MOp.key, MOp.value, MOp.list, MOp.has, MOp.nl] at *
  subst ho hlv
  go_enter Try.func35, Try.ntmps35
  go_wp2_with fail
  go_at_call 33
  refine (R.out _).mono ?_
  rintro e w1 ⟨rfl, b1⟩
  obtain ⟨h0, h1, h2, hb⟩ := three_at w _ _ _ b1
  have HB := hid hb
  have H2 := hid h2
  have c0 := Lib.cell_of_heap h1 0
  have c3 := Lib.cell_of_heap h1 3
  simp at c0 c3
  clear h0 h1 h2 hb b1
  go_wp2_with fail
  go_at_call 31
  refine (clone_own (.slice la ln lc) ol w1 (L1.out.keep (keeps_below HB.out) (fun _ _ h => h))).mono ?_
  rintro e w2 ⟨v', rfl, own, b2⟩
  have HO := hid own
  have h2 : w2.heap[w.heap.size + 1 + 1]? = _ := (b2.block _ (blt H2.out)).trans H2.out
  have HC := hid (HB.out.trans (b2.mono HB.out.size))
  have H3 := hid (blt H2.out)
  obtain ⟨va, vn, vc, hv'⟩ : ∃ a n c, v' = .slice a n c := by obtain ⟨a, c, h⟩ := own_slice own; exact ⟨a, _, c, h⟩
  have OB := hid (fun g hg => (own_block own (g := g) hg).1)
  have y0 := Lib.cell_of_heap h2 0
  have y1 := Lib.cell_of_heap h2 1
  have y2 := Lib.cell_of_heap h2 2
  have y3 := Lib.cell_of_heap h2 3
  have z0 := Lib.frozen_of_heap h2 0
  have z1 := Lib.frozen_of_heap h2 1
  have z2 := Lib.frozen_of_heap h2 2
  have z3 := Lib.frozen_of_heap h2 3
  simp at y0 y1 y2 y3
  subst hv'
  clear h2 own b2
  go_wp2_with fail
  refine bodyPost_ret (v := .agg #[.bool true, .slice va vn vc, .bool false, .int .i64 0]) (by simp [results, Try.results35, go_sem, *]) rfl ⟨_, rfl, ?_, (fun g hg => .inr (Nat.le_trans HB.out.size (OB.out g hg))), set4_gro (gro_below HC.out) (by omega)⟩
  refine own_mono (own_same HO.out (fun g hg => ?_)) (Nat.le_trans hB HB.out.size)
  have h5 := OB.out g hg
  have h6 := H3.out
  rw [set4_ne (by omega)]

/-- What is known behind an operation. -/
theorem with_is (B : Nat) (k : Kn) (sl : Value) (o : MOp) (lv : Value) (w : World) (hO : w.ownsRow B 3 1 sl k.list.length (k.list.map (Value.int .i64))) (hL : IntsIn Any w lv o.list) (hB : B ≤ w.heap.size) (hn : o.kind = 1 → k.list.length ≤ 1099511627776) :
    Calls Try.prog 35 #[knV k sl, opV o lv] w fun e w' => WithPost B k sl o w e w' := by
  by_cases h1 : o.kind = 1
  · exact with_append B k sl o lv w hO hB (hn h1) h1
  · by_cases h3 : o.kind = 3
    · exact with_write B k sl o lv w h3
    · cases hr : rds o with
      | false => exact with_none B k sl o lv w hO h1 h3 hr
      | true =>
        have hk : o.kind = 2 ∨ o.kind = 4 := by
          simp [rds] at hr
          exact hr.2
        rcases hk with h2 | h4
        · exact with_read B k sl o lv w hB hL h2 hr
        · exact with_get B k sl o lv w h4 hr
end Go.Proofs.Ytadlnkaphkbfdaa
