/-
  do: what an operation writes.
-/
import Derived.Test.YtjeheknhpfkaiaaDoorM3
namespace Go.Proofs.YtjeheknhpfkaiaaDoor
set_option linter.unusedVariables false
set_option linter.unusedSimpArgs false
open Go.RowKit Go.Lib Go.Maps

/-- The value of an operation. -/
def opV (o : MOp) (lv : Value) : Value := .agg #[.int .i64 o.kind, .string o.key, .int .i64 o.value, lv, .bool o.has, .bool o.nl]
theorem Tryd.infoInt : (Tryd.prog.info? 3).map (fun i => (i.zero, i.size, i.bytes)) = some (some (.int .i64 0), 1, 8) := by kernel_rfl
theorem lst_upd (L : List MOp) (o : MOp) (h : o.kind = 1) : lstM (L ++ [o]) = upd (lstM L) o.key (lstM L o.key ++ [o.value]) := by
  funext k
  rw [lst_snoc]
  unfold upd
  by_cases e : k = o.key
  · subst e
    rw [if_pos ⟨h, rfl⟩, if_pos rfl]
  · rw [if_neg (fun c => e c.2.symm), if_neg e]
theorem lst_other (L : List MOp) (o : MOp) (h : o.kind ≠ 1) : lstM (L ++ [o]) = lstM L := by
  funext k
  rw [lst_snoc, if_neg (fun c => h c.1)]
theorem reg_upd (L : List MOp) (o : MOp) (h : o.kind = 3) : regM (L ++ [o]) = updR (regM L) o.key (some o.value) := by
  funext k
  rw [reg_snoc]
  unfold updR
  by_cases e : k = o.key
  · subst e
    rw [if_pos ⟨h, rfl⟩, if_pos rfl]
  · rw [if_neg (fun c => e c.2.symm), if_neg e]
theorem reg_other (L : List MOp) (o : MOp) (h : o.kind ≠ 3) : regM (L ++ [o]) = regM L := by
  funext k
  rw [reg_snoc, if_neg (fun c => h c.1)]

theorem row_tag {B : Nat} {w : World} {z n g : Nat} {v : Value} {xs : List Value} {cs : Array Value} {t : TypeId} {fr : Nat × Nat} (h : w.ownsRow B 3 z v n xs) (hc : w.heap[g]? = some (.cells cs t fr)) (ht : t ≠ 3) : v.ownBlock ≠ some g := fun hg => by
  obtain ⟨_, _, cs', hc'⟩ := own_block h hg
  rw [hc] at hc'
  cases hc'
  exact ht rfl
/-- A state behind a change of its lists. -/
theorem St.lists {B : Nat} {w w' : World} {sb lb rb : Nat} {F F' : Nat → Prop} {n n' : Nat} {L L' : List MOp} {S : ByteArray → Value} (h : St B w sb lb rb F n L) (hl : Ls B w' lb F' n' (lstM L') S) (hn : n ≤ n') (hr : regM L' = regM L) (hF : ∀ b, F b → F' b) (hlt : ∀ b, F' b → B ≤ b ∧ b < w'.heap.size) (hs : w'.heap[sb]? = w.heap[sb]?) (hb : w'.heap[rb]? = w.heap[rb]?) : St B w' sb lb rb F' n' L' := by
  obtain ⟨f, h1, h2⟩ := h.rs
  exact ⟨hs.trans h.ob, h.ne, hF _ h.fs, hF _ h.fl, hF _ h.fr, hlt, ⟨S, hl⟩, by rw [hr]; exact ⟨f, (h1.same hb).mono hn, h2⟩⟩
/-- A state behind a change of its registers. -/
theorem St.regs {B : Nat} {w w' : World} {sb lb rb : Nat} {F F' : Nat → Prop} {n n' : Nat} {L L' : List MOp} (h : St B w sb lb rb F n L) (hl : Rs w' rb n' (regM L')) (hn : n ≤ n') (hr : lstM L' = lstM L) (hF : ∀ b, F b → F' b) (hlt : ∀ b, F' b → B ≤ b ∧ b < w'.heap.size) (hk : ∀ b, F b → b ≠ rb → w'.heap[b]? = w.heap[b]?) : St B w' sb lb rb F' n' L' := by
  obtain ⟨S, hS⟩ := h.ls
  obtain ⟨g, h3, h4⟩ := hS.map
  obtain ⟨f, h1, h2⟩ := h.rs
  have hsr : sb ≠ rb := fun e => by
    obtain ⟨es, ck, he⟩ := h1.block
    have := h.ob
    rw [e, he] at this
    cases this
  refine ⟨(hk sb h.fs hsr).trans h.ob, h.ne, hF _ h.fs, hF _ h.fl, hF _ h.fr, hlt, ⟨S, ?_⟩, hl⟩
  rw [hr]
  have hm : ∀ s g, (S s).ownBlock = some g → w'.heap[g]? = w.heap[g]? := fun s g hg => hk g (hS.foot s g hg) (fun e => map_ne (g := 0) (hS.own s) h1 (by rw [hg, e]))
  exact ⟨⟨g, (h3.same (hk lb h.fl h.ne)).mono hn, h4⟩, hS.nil, fun s => own_same (hS.own s) (hm s), fun s g hg => hF g (hS.foot s g hg), hS.apart⟩
theorem wide_lt {B : Nat} {w w' : World} {F : Nat → Prop} (h : ∀ b, F b → B ≤ b ∧ b < w.heap.size) (hB : B ≤ w.heap.size) (hs : w.heap.size ≤ w'.heap.size) (b : Nat) (hb : wide F w w' b) : B ≤ b ∧ b < w'.heap.size := by
  rcases hb with q | q
  · have := h b q
    omega
  · omega

set_option maxHeartbeats 2000000 in
set_option maxRecDepth 100000 in
theorem do_append (B : Nat) (w : World) (sb lb rb : Nat) (F : Nat → Prop) (n : Nat) (L : List MOp) (o : MOp) (la : Option Addr) (ln lc : Nat) (h : St B w sb lb rb F n L) (hB : B ≤ w.heap.size) (ho : o.kind = 1) (hks : o.key.size ≤ 281474976710656) (hn : n < maxLen) (hL : (lstM L o.key).length ≤ 17592186044414) :
    Calls Tryd.prog 25 #[.pointer (some ⟨sb, 0, none⟩), opV o (.slice la ln lc)] w fun e w' => (∃ v, e = .returned v) ∧ St B w' sb lb rb (wide F w w') (n + 1) (L ++ [o]) ∧ Gro F w w' := by
  obtain ⟨i0, hi, hz0, hz1, hz2⟩ := info_parts Tryd.infoInt
  have hk : o.key.size ≤ maxLen := key_max hks
  have SX := hid h
  obtain ⟨S, hS⟩ := h.ls
  have HS := hid hS
  obtain ⟨f, hm, hf⟩ := hS.map
  have c0 := h.c0
  have hsz := World.block_lt_of_cell? _ _ c0
  have hlook : ∀ (w1 : World), w1.heap[lb]? = w.heap[lb]? → (Instr.lookup 46 (.map (some lb)) (.string o.key) false).run Tryd.prog w1 = .ok (S o.key) w1 := fun w1 h1 => by
    have q := (hm.same h1).look keys9 Tryd.underlying46 (zeroL w1) (key9 o.key hk)
    rw [q, hf]
    by_cases e : lstM L o.key = []
    · rw [if_pos e, hS.nil _ e]
      rfl
    · rw [if_neg e]
      rfl
  have hown := hS.own o.key
  obtain ⟨sa, sc, hsl⟩ := own_slice hown
  have HO := hid hown
  have HL := hid hlook
  have HM := hid hm
  have HI := hid hi
  have HZ0 := hid hz0
  have HZ1 := hid hz1
  have HZ2 := hid hz2
  obtain ⟨N, hN⟩ : ∃ N, (lstM L o.key).length = N := ⟨_, rfl⟩
  rw [hN] at HO hsl hL
  rw [hsl] at HL HO
  have HSL := hid hsl
  have HN := hid hN
  clear h hS hlook hown hm hf hi hz0 hz1 hz2 hsl hN
  obtain ⟨ok, os, ox, ol, oh, on⟩ := o
  unfold opV
  simp only [MOp.kind, MOp.key, MOp.value, MOp.list, MOp.has, MOp.nl] at *
  subst ho
  go_enter Tryd.func25, Tryd.ntmps25
  go_wp2_with fail
  obtain ⟨W, hW⟩ : ∃ W, w.alloc (.cells #[.int .i64 1, .string os, .int .i64 ox, .slice la ln lc, .bool oh, .bool on] 56) = W := ⟨_, rfl⟩
  have BW : Hid (Below w.heap.size w W) := by rw [← hW]; exact below_box w _
  have HBx : Hid (W.heap[w.heap.size]? = some (.cells #[.int .i64 1, .string os, .int .i64 ox, .slice la ln lc, .bool oh, .bool on] 56)) := by rw [← hW]; show (w.alloc _).heap[w.heap.size]? = _; rw [alloc_at, if_pos rfl]
  have HWS : Hid (W.heap.size = w.heap.size + 1) := by rw [← hW]; exact alloc_size _ _
  rw [hW]
  clear hW
  have d0 : W.cell? ⟨sb, 0, none⟩ = some (.map (some lb)) := (BW.out.cell (p := ⟨sb, 0, none⟩) hsz).trans c0
  have d1 : W.cell? ⟨w.heap.size, 1, none⟩ = some (.string os) := Lib.cell_of_heap HBx.out 1
  have d2 : W.cell? ⟨w.heap.size, 2, none⟩ = some (.int .i64 ox) := Lib.cell_of_heap HBx.out 2
  have hlW : W.heap[lb]? = w.heap[lb]? := BW.out.block _ HM.out.lt
  have q0 := HL.out W hlW
  have q1 := HL.out W.drew hlW
  have q3 := fun o => HL.out (W.alloc o).drew ((below_box W o).block _ (Nat.lt_of_lt_of_le HM.out.lt BW.out.size) |>.trans hlW)
  clear hlW
  have LX : Hid (LsX B W lb F n os (lstM L) S) := (HS.out.less os).keep (BW.out.block _ HM.out.lt) (fun s g hs hg => BW.out.block g (own_block (HS.out.own s) hg).2.1) (fun _ x => x)
  have RW : Hid (W.ownsRow B 3 1 (.slice sa N sc) N ((lstM L os).map (Value.int .i64))) := own_same HO.out (fun g hg => BW.out.block g (own_block HO.out hg).2.1)
  have ROW : Hid (∀ o, (W.drew.alloc o).ownsRow B 3 1 (.slice sa N sc) N ((lstM L os).map (Value.int .i64))) := fun o => World.ownsRow.alloc (w := W.drew) RW.out o
  have NEWS : Hid (∀ o, (W.drew.alloc o).heap[W.heap.size]? = some o) := fun o => by rw [alloc_at]; exact if_pos rfl
  have hB2 : B ≤ W.heap.size := by have := HWS.out; omega
  go_region_held3 (fun w' => w'.cell? ⟨sb, 0, none⟩ = some (.map (some lb)) ∧ w'.cell? ⟨w.heap.size, 1, none⟩ = some (.string os) ∧ w'.cell? ⟨w.heap.size, 2, none⟩ = some (.int .i64 ox)) (go_keep) (first
    | (go_at_call 35
       refine (setList_some B w6 sb lb (wide F w w6) n os (lstM L) S (.slice (some ⟨g, 0, none⟩) (N + 1) cap) (lstM L os ++ [ox]) k6 LX6.out hks hn OW6.out (by simp) FO6.out AP6.out).mono ?_
       rintro e w7 ⟨⟨v7, rfl⟩, hL7, hg7⟩
       have L7 := hid hL7
       have G7 := hid hg7
       clear hL7 hg7
       have k7 : w7.cell? ⟨sb, 0, none⟩ = some (.map (some lb)) := (World.cell?_of_block (a := ⟨sb, 0, none⟩) (G7.out.block sb (World.block_lt_of_cell? _ _ k6) SNE.out)).trans k6
       have k71 : w7.cell? ⟨w.heap.size, 1, none⟩ = some (.string os) := (World.cell?_of_block (a := ⟨w.heap.size, 1, none⟩) (G7.out.block w.heap.size (World.block_lt_of_cell? _ _ k61) WNE.out)).trans k61
       have k72 : w7.cell? ⟨w.heap.size, 2, none⟩ = some (.int .i64 ox) := (World.cell?_of_block (a := ⟨w.heap.size, 2, none⟩) (G7.out.block w.heap.size (World.block_lt_of_cell? _ _ k61) WNE.out)).trans k62)
    | (refine step_append_lies _ (by rfl) _ _ 47 (by rfl) B 3 i0 (.int .i64 0) 1 8 Tryd.underlying47 HI.out HZ0.out HZ1.out HZ2.out rfl (by decide) (.slice sa N sc) N ((lstM L os).map (Value.int .i64)) (by rfl) (ROW.out _) ⟨W.heap.size, 0, none⟩ 1 1 [.int .i64 ox] (by rfl) (by rfl) (World.news_of_block (cs := #[.int .i64 ox]) (t := 3) (fr := (0, 0)) (NEWS.out _)) (by simp [Value.oneCell']) (by decide) (by unfold maxLen; omega) (by omega) (by simp; omega) (W.heap.size + 1) (by simp) ?_
       intro g cap w6 hown hgrow hat hglt
       have G6 : Hid (∀ b, b < W.heap.size → (Value.slice sa N sc).ownBlock ≠ some b → w6.heap[b]? = W.heap[b]?) := fun b hb hne => (hgrow.block b (by show b < (W.alloc _).heap.size; rw [alloc_size]; exact Nat.lt_succ_of_lt hb) (fun e => hne e.symm)).trans ((below_box W _).block b hb)
       have Z6 : Hid (W.heap.size + 1 ≤ w6.heap.size) := by
         have := (show (W.alloc (.cells #[.int .i64 ox] 3)).heap.size ≤ w6.heap.size from hgrow.size)
         rw [alloc_size] at this
         exact this
       have B6 : Hid (Gro F w w6) := ⟨hgrow.os.trans BW.out.os, hgrow.tape.trans BW.out.tape, hgrow.output.trans BW.out.output, by have h1 := Z6.out; have h2 := BW.out.size; omega, fun b hb hn => (G6.out b (Nat.lt_of_lt_of_le hb BW.out.size) (fun e => hn (HS.out.foot os b (by rw [HSL.out]; exact e)))).trans (BW.out.block b hb)⟩
       have X6 : Hid (w6.heap[w.heap.size]? = some (.cells #[.int .i64 1, .string os, .int .i64 ox, .slice la ln lc, .bool oh, .bool on] 56)) := (G6.out w.heap.size (by have := HWS.out; omega) (fun e => by have := (own_block HO.out e).2.1; omega)).trans HBx.out
       have O6 : Hid (w6.heap[sb]? = w.heap[sb]?) := (G6.out sb (Nat.lt_of_lt_of_le hsz BW.out.size) (row_tag HO.out SX.out.ob (by decide))).trans (BW.out.block sb hsz)
       have k6 : w6.cell? ⟨sb, 0, none⟩ = some (.map (some lb)) := (World.cell?_of_block (a := ⟨sb, 0, none⟩) O6.out).trans c0
       have k61 : w6.cell? ⟨w.heap.size, 1, none⟩ = some (.string os) := Lib.cell_of_heap X6.out 1
       have k62 : w6.cell? ⟨w.heap.size, 2, none⟩ = some (.int .i64 ox) := Lib.cell_of_heap X6.out 2
       have OW6 : Hid (w6.ownsRow B 3 1 (.slice (some ⟨g, 0, none⟩) (N + 1) cap) (lstM L os ++ [ox]).length ((lstM L os ++ [ox]).map (Value.int .i64))) := by
         show w6.ownsRow _ _ _ _ _ _
         rw [List.length_append, HN.out, List.map_append]
         exact hown
       have LB6 : Hid (w6.heap[lb]? = W.heap[lb]?) := G6.out lb (Nat.lt_of_lt_of_le HM.out.lt BW.out.size) (map_ne (g := 0) HO.out HM.out)
       have LX6 : Hid (LsX B w6 lb (wide F w w6) n os (lstM L) S) := LX.out.keep LB6.out (fun s g' hs hg => G6.out g' (own_block (LX.out.own s hs) hg).2.1 (fun e => hs (HS.out.apart s os g' hg (by rw [HSL.out]; exact e)))) (fun b hb => .inl hb)
       have FO6 : Hid (∀ g', (Value.slice (some ⟨g, 0, none⟩) (N + 1) cap).ownBlock = some g' → wide F w w6 g') := fun g' hg => by
         have e : g = g' := by simpa [Value.ownBlock] using hg
         subst e
         rcases hat with q | q
         · exact .inl (HS.out.foot os g (by rw [HSL.out]; exact q))
         · exact .inr ⟨by have := HWS.out; omega, hglt⟩
       have AP6 : Hid (∀ s g', s ≠ os → (Value.slice (some ⟨g, 0, none⟩) (N + 1) cap).ownBlock = some g' → (S s).ownBlock ≠ some g') := fun s g' hs hg hc => by
         have e : g = g' := by simpa [Value.ownBlock] using hg
         subst e
         rcases hat with q | q
         · exact hs (HS.out.apart s os g hc (by rw [HSL.out]; exact q))
         · have h1 := (own_block (HS.out.own s) hc).2.1
           have := HWS.out
           omega
       have SNE : Hid (¬ sb = lb) := fun e => by
         obtain ⟨es, ck, he⟩ := HM.out.block
         have := SX.out.ob
         rw [e, he] at this
         cases this
       have WNE : Hid (¬ w.heap.size = lb) := fun e => by have := HM.out.lt; omega
       clear hown hgrow hat hglt))
  all_goals (try go_wp2_with fail)
  all_goals
    go_end0
    obtain ⟨S', hS'⟩ := L7.out
    have hrb := (show Rs w rb n (regM L) from SX.out.rs)
    obtain ⟨fr, hr1, hr2⟩ := hrb
    refine ⟨⟨_, rfl⟩, ?_, B6.out.trans (G7.out.mono (fun i _ e => .inl (e ▸ SX.out.fl)))⟩
    have hs7 : w6.heap.size ≤ w7.heap.size := G7.out.size
    have hwd : ∀ b, wide F w w6 b → wide F w w7 b := fun b hb => by
      rcases hb with q | q
      · exact .inl q
      · exact .inr ⟨q.1, by omega⟩
    refine SX.out.lists (S := S') (F' := wide F w w7) ?_ (Nat.le_succ _) (reg_other _ _ (by show (1 : Int) ≠ 3; decide)) (fun b hb => .inl hb) (wide_lt SX.out.flt hB (by have h1 := Z6.out; have h2 := HWS.out; omega)) ?_ ?_
    · rw [lst_upd _ _ rfl]
      obtain ⟨f', h1, h2⟩ := hS'.map
      exact ⟨⟨f', h1, h2⟩, hS'.nil, hS'.own, fun s g hg => hwd g (hS'.foot s g hg), hS'.apart⟩
    · exact (G7.out.block sb (by have h1 := Z6.out; have h2 := HWS.out; omega) SNE.out).trans O6.out
    · refine (G7.out.block rb (by have h1 := Z6.out; have h2 := HWS.out; have := hr1.lt; omega) (fun e => SX.out.ne e.symm)).trans ?_
      exact (G6.out rb (Nat.lt_of_lt_of_le hr1.lt BW.out.size) (map_ne (g := 0) HO.out hr1)).trans (BW.out.block rb hr1.lt)

set_option maxHeartbeats 2000000 in
theorem do_write (B : Nat) (w : World) (sb lb rb : Nat) (F : Nat → Prop) (n : Nat) (L : List MOp) (o : MOp) (la : Option Addr) (ln lc : Nat) (h : St B w sb lb rb F n L) (hB : B ≤ w.heap.size) (ho : o.kind = 3) (hks : o.key.size ≤ 281474976710656) (hn : n < maxLen) :
    Calls Tryd.prog 25 #[.pointer (some ⟨sb, 0, none⟩), opV o (.slice la ln lc)] w fun e w' => (∃ v, e = .returned v) ∧ St B w' sb lb rb (wide F w w') (n + 1) (L ++ [o]) ∧ Gro F w w' := by
  have SX := hid h
  have hsz := World.block_lt_of_cell? _ _ h.c1
  have hc1 := h.c1
  clear h
  obtain ⟨ok, os, ox, ol, oh, on⟩ := o
  unfold opV
  simp only [MOp.kind, MOp.key, MOp.value, MOp.list, MOp.has, MOp.nl] at *
  subst ho
  obtain ⟨W, hW⟩ : ∃ W, w.alloc (.cells #[.int .i64 3, .string os, .int .i64 ox, .slice la ln lc, .bool oh, .bool on] 56) = W := ⟨_, rfl⟩
  have BW : Hid (Below w.heap.size w W) := by rw [← hW]; exact below_box w _
  have S1 : Hid (St B W sb lb rb F n L) := SX.out.later BW.out
  have HW := hid hW
  clear hW
  go_enter Tryd.func25, Tryd.ntmps25
  go_wp2_with (go_at_call 36; rw [show w.alloc (.cells #[.int .i64 3, .string os, .int .i64 ox, .slice la ln lc, .bool oh, .bool on] 56) = W from HW.out]; refine (setReg_some W sb rb n os (regM L) ox S1.out.c1 S1.out.rs hks hn).mono ?_; rintro e w7 ⟨⟨v7, rfl⟩, hR7, hg7⟩; have R7 := hid hR7; have G7 := hid hg7; clear hR7 hg7)
  go_end0
  refine ⟨⟨_, rfl⟩, ?_, (Gro.of_below (P := F) BW.out).trans (G7.out.mono (fun i _ e => .inl (e ▸ SX.out.fr)))⟩
  refine S1.out.regs (F' := wide F w w7) ?_ (Nat.le_succ _) (lst_other _ _ (by show (3 : Int) ≠ 1; decide)) (fun b hb => .inl hb) (wide_lt SX.out.flt hB (Nat.le_trans BW.out.size G7.out.size)) (fun b hb hne => G7.out.block b (S1.out.flt b hb).2 hne)
  rw [reg_upd _ _ rfl]
  exact R7.out
set_option maxHeartbeats 2000000 in
theorem do_none (B : Nat) (w : World) (sb lb rb : Nat) (F : Nat → Prop) (n : Nat) (L : List MOp) (o : MOp) (la : Option Addr) (ln lc : Nat) (h : St B w sb lb rb F n L) (ho1 : o.kind ≠ 1) (ho3 : o.kind ≠ 3) :
    Calls Tryd.prog 25 #[.pointer (some ⟨sb, 0, none⟩), opV o (.slice la ln lc)] w fun e w' => (∃ v, e = .returned v) ∧ Below w.heap.size w w' := by
  obtain ⟨ok, os, ox, ol, oh, on⟩ := o
  unfold opV
  simp only [MOp.kind, MOp.key, MOp.value, MOp.list, MOp.has, MOp.nl] at *
  have e1 : (ok == 1) = false := by simp [ho1]
  have e3 : (ok == 3) = false := by simp [ho3]
  go_enter Tryd.func25, Tryd.ntmps25
  go_wp2_with fail
  go_end0
  exact ⟨⟨_, rfl⟩, below_box w _⟩
/-- What an operation leaves. -/
theorem do_is (B : Nat) (w : World) (sb lb rb : Nat) (F : Nat → Prop) (n : Nat) (L : List MOp) (o : MOp) (la : Option Addr) (ln lc : Nat) (h : St B w sb lb rb F n L) (hB : B ≤ w.heap.size) (hks : o.key.size ≤ 281474976710656) (hn : n < maxLen) (hL : (lstM L o.key).length ≤ 17592186044414) :
    Calls Tryd.prog 25 #[.pointer (some ⟨sb, 0, none⟩), opV o (.slice la ln lc)] w fun e w' => (∃ v, e = .returned v) ∧ St B w' sb lb rb (wide F w w') (n + 1) (if wrB o = true then L ++ [o] else L) ∧ Gro F w w' := by
  by_cases h1 : o.kind = 1
  · rw [if_pos (by simp [wrB, h1])]
    exact do_append B w sb lb rb F n L o la ln lc h hB h1 hks hn hL
  · by_cases h3 : o.kind = 3
    · rw [if_pos (by simp [wrB, h3])]
      exact do_write B w sb lb rb F n L o la ln lc h hB h3 hks hn
    · rw [if_neg (by simp [wrB, h1, h3])]
      refine (do_none B w sb lb rb F n L o la ln lc h h1 h3).mono fun e w' ⟨he, hb⟩ => ⟨he, (h.later hb).wider (fun b hb => .inl hb) (wide_lt h.flt hB hb.size) (Nat.le_succ _), Gro.of_below hb⟩
end Go.Proofs.YtjeheknhpfkaiaaDoor
