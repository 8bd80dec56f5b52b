/-
  report.Print: what stands on an anomaly's line.
-/
import Derived.Test.YtkpomcimaofkkaaDoorV4
namespace Go.Proofs.YtkpomcimaofkkaaDoor.Rp
set_option linter.unusedVariables false
set_option linter.unusedSimpArgs false
open Go.RowKit Go.Lib

theorem Tryd.infoStr : (Tryd.prog.info? 9).map (fun i => (i.zero, i.size, i.bytes)) = some (some (.string ByteArray.empty), 1, 16) := by kernel_rfl
/-- A row of strings of one's own. -/
def SS (B : Nat) (w : World) (v : Value) (l : List ByteArray) : Prop := w.ownsRow B 9 1 v l.length (l.map Value.string)
theorem SS.block {B : Nat} {w : World} {v : Value} {l : List ByteArray} (h : SS B w v l) {g : Nat} (hg : v.ownBlock = some g) : B ≤ g ∧ g < w.heap.size := by
  rcases h.2 with ⟨rfl, _⟩ | ⟨k, cap, cur, rfl, hb, hh, _⟩
  · cases hg
  · cases hg
    exact ⟨hb, blt hh⟩
theorem SS.same {B : Nat} {w w' : World} {v : Value} {l : List ByteArray} (h : SS B w v l) (hb : ∀ g, v.ownBlock = some g → w'.heap[g]? = w.heap[g]?) : SS B w' v l := by
  refine ⟨h.1, ?_⟩
  rcases h.2 with hn | ⟨k, cap, cur, rfl, hg, hh, hr⟩
  · exact .inl hn
  · exact .inr ⟨k, cap, cur, rfl, hg, (hb k rfl).trans hh, hr⟩
theorem SS.mono {B B' : Nat} {w : World} {v : Value} {l : List ByteArray} (h : SS B w v l) (hB : B' ≤ B) : SS B' w v l := by
  refine ⟨h.1, ?_⟩
  rcases h.2 with hn | ⟨k, cap, cur, rfl, hg, hh, hr⟩
  · exact .inl hn
  · exact .inr ⟨k, cap, cur, rfl, Nat.le_trans hB hg, hh, hr⟩
theorem SS.below {B B' : Nat} {w w' : World} {v : Value} {l : List ByteArray} (h : SS B w v l) (hb : Below B' w w') (hB : w.heap.size ≤ B') : SS B w' v l :=
  h.same fun g hg => hb.block g (by have := (h.block hg).2; omega)
/-- A row that is not empty, cell by cell. -/
theorem SS.cells {B : Nat} {w : World} {v : Value} {l : List ByteArray} (h : SS B w v l) (h0 : 0 < l.length) : ∃ g cap, v = .slice (some ⟨g, 0, none⟩) l.length cap ∧ l.length ≤ cap ∧ B ≤ g ∧ g < w.heap.size ∧ ∀ (j : Nat) u, l[j]? = some u → w.cell? ⟨g, j, none⟩ = some (.string u) := by
  have hb := h
  rcases h.2 with ⟨_, hn⟩ | ⟨g, cap, cur, rfl, hg, hh, h1, h2, h3, h4⟩
  · omega
  · refine ⟨g, cap, rfl, h1, hg, (SS.block hb rfl).2, fun j u hj => ?_⟩
    have hjl := (List.getElem?_eq_some_iff.1 hj).1
    rw [Lib.cell_of_heap hh, ← Array.getElem?_toList]
    have e : (cur.toList.take (l.length * 1))[j]? = some (.string u) := by rw [h4, List.getElem?_map, hj]; rfl
    rw [List.getElem?_take, if_pos (by omega)] at e
    exact e
theorem SS.made {B g : Nat} {w : World} {l : List ByteArray} (h : w.heap[g]? = some (.cells (l.map Value.string).toArray 9)) (hB : B ≤ g) (hl : l.length ≤ 1000) : SS B w (.slice (some ⟨g, 0, none⟩) l.length l.length) l :=
  ⟨by simp, .inr ⟨g, l.length, _, rfl, hB, h, Nat.le_refl _, by unfold maxLen; omega, by simp, by rw [List.take_of_length_le (by simp)]⟩⟩
theorem wp_appendS {o : Oper} {A : Act} {K : Act → World → Prop} {Q : Exit → Act → World → Prop} (base : Nat) (V : World) (s x : Operand)
    (ho : o.op = .call { callee := .builtin .append, args := #[s, x], argTypes := #[34, 34] }) (out : Value) (l r : List ByteArray) (n : Nat) (hn : r.length = n) (hs : A.eval s = out) (nb : Nat) (hx : A.eval x = .slice (some ⟨nb, 0, none⟩) n n) (hblk : V.heap[nb]? = some (.cells (r.map Value.string).toArray 9))
    (h1 : SS base V out l) (hb : base ≤ V.heap.size) (hl : l.length ≤ 400000) (hr0 : 0 < r.length) (hr : r.length ≤ 1000)
    (hK : ∀ v' V', SS base V' v' (l ++ r) → Below base V V' → K (A.put o.dst v') V') : o.wp Tryd.prog A V K Q := by
  obtain ⟨i0, hi0, hz0, hz1, hz2⟩ := info_parts Tryd.infoStr
  subst hn
  refine wp_append_lies V s x 34 ho base 9 i0 _ 1 16 Tryd.underlying34 hi0 hz0 hz1 hz2 rfl (by decide) out l.length (l.map Value.string) hs h1 ⟨nb, 0, none⟩ r.length r.length (r.map Value.string) hx (by simp) (World.news_of_block (cs := (r.map Value.string).toArray) (t := 9) (fr := (0, 0)) hblk) ?_ hr0 (by unfold maxLen; omega) (by omega) (by omega) V.heap.size rfl ?_
  · intro u hu
    obtain ⟨b, _, rfl⟩ := List.mem_map.1 hu
    rfl
  · intro g cap V' q1 q2 q3 _
    refine hK _ V' ?_ ((Below.refl base _).grown q2 hb (fun b c => (h1.block c).1))
    unfold SS
    rw [List.length_append, List.map_append]
    exact q1
/-- What is printed has ints of 64 bits and short keys. -/
def RngW (x : MW) : Prop := i64R x.1 ∧ i64R x.2.1 ∧ i64R x.2.2.2.2.1 ∧ i64R x.2.2.2.2.2.1 ∧ x.2.2.2.1.size ≤ 1000
def RngA (a : MA) : Prop := i64R a.2.1 ∧ i64R a.2.2.1 ∧ i64R a.2.2.2.1 ∧ i64R a.2.2.2.2.2.1 ∧ a.2.2.2.2.1.size ≤ 1000 ∧ a.cyc.length ≤ 300 ∧ ∀ x ∈ a.cyc, RngW x
theorem flatMap_len {α : Type} (f : α → List ByteArray) (c : Nat) (hf : ∀ x, (f x).length = c) : ∀ l : List α, (l.flatMap f).length = c * l.length
  | [] => rfl
  | x :: l => by rw [List.flatMap_cons, List.length_append, hf, flatMap_len f c hf l, List.length_cons, Nat.mul_add]; omega
theorem take_flat {α : Type} [Inhabited α] (f : α → List ByteArray) {l : List α} {k : Nat} {x : α} (hk : k < l.length) (hx : l.getD k default = x) : (l.take (k + 1)).flatMap f = (l.take k).flatMap f ++ f x := by
  rw [List.take_succ_eq_append_getElem hk, List.flatMap_append]
  have e : l[k] = x := by rw [← hx]; simp [List.getD, List.getElem?_eq_getElem hk]
  rw [e]
  simp
set_option maxHeartbeats 8000000 in
set_option maxRecDepth 100000 in
theorem aparts_is (x0 x1 x2 x3 : Int) (x4 : ByteArray) (x5 : Int) (ca : Option Addr) (cc : Nat) (cyc : List MW) (x7 : Bool) (x8 : Int) (w : World) (hc : WhysIn w (.slice ca cyc.length cc) cyc) (hR : RngA (x0, x1, x2, x3, x4, x5, cyc, x7, x8)) (hT : Pow w.heap.size w) (hN : NamesAt w) :
    Calls Tryd.prog 14 #[.agg #[.int .i64 x0, .int .i64 x1, .int .i64 x2, .int .i64 x3, .string x4, .int .i64 x5, .slice ca cyc.length cc, .bool x7, .int .i64 x8]] w fun e w' => ∃ v, e = .returned v ∧ SS w.heap.size w' v (aParts (x0, x1, x2, x3, x4, x5, cyc, x7, x8)) ∧ Below w.heap.size w w' := by
  obtain ⟨r1, r2, r3, r4, r5, r6, r7⟩ := hR
  simp only [MA.cyc] at r1 r2 r3 r4 r5 r6 r7
  have BX := box_new w #[.int .i64 x0, .int .i64 x1, .int .i64 x2, .int .i64 x3, .string x4, .int .i64 x5, .slice ca cyc.length cc, .bool x7, .int .i64 x8] 46
  have A1 := hid (below_box w (.cells #[.int .i64 x0, .int .i64 x1, .int .i64 x2, .int .i64 x3, .string x4, .int .i64 x5, .slice ca cyc.length cc, .bool x7, .int .i64 x8] 46))
  obtain ⟨W, hW⟩ : ∃ W, w.alloc (.cells #[.int .i64 x0, .int .i64 x1, .int .i64 x2, .int .i64 x3, .string x4, .int .i64 x5, .slice ca cyc.length cc, .bool x7, .int .i64 x8] 46) = W := ⟨_, rfl⟩
  obtain ⟨o, ho⟩ : ∃ o, w.heap.size = o := ⟨_, rfl⟩
  have hWs : Hid (W.heap.size = o + 1) := by show _ = _; rw [← hW, ← ho]; simp
  have BW1 : Hid (Below w.heap.size w W) := by rw [← hW]; exact A1.out
  rw [hW, ho] at BX
  have HBX := hid BX
  have c0 : W.cell? ⟨o, 0, none⟩ = some (.int .i64 x0) := BX.cell 0
  have c1 : W.cell? ⟨o, 1, none⟩ = some (.int .i64 x1) := BX.cell 1
  have c2 : W.cell? ⟨o, 2, none⟩ = some (.int .i64 x2) := BX.cell 2
  have c3 : W.cell? ⟨o, 3, none⟩ = some (.int .i64 x3) := BX.cell 3
  have c4 : W.cell? ⟨o, 4, none⟩ = some (.string x4) := BX.cell 4
  have c5 : W.cell? ⟨o, 5, none⟩ = some (.int .i64 x5) := BX.cell 5
  have c7 : W.cell? ⟨o, 7, none⟩ = some (.bool x7) := BX.cell 7
  have c8 : W.cell? ⟨o, 8, none⟩ = some (.int .i64 x8) := BX.cell 8
  obtain ⟨lb, hlb⟩ : ∃ lb, wordN kindWs x0 = lb := ⟨_, rfl⟩
  obtain ⟨d1, hd1⟩ : ∃ d, decB x1 = d := ⟨_, rfl⟩
  obtain ⟨d2, hd2⟩ : ∃ d, decB x2 = d := ⟨_, rfl⟩
  obtain ⟨d3, hd3⟩ : ∃ d, decB x3 = d := ⟨_, rfl⟩
  obtain ⟨br, hbr⟩ : ∃ d, brB x4 = d := ⟨_, rfl⟩
  obtain ⟨d5, hd5⟩ : ∃ d, decB x5 = d := ⟨_, rfl⟩
  obtain ⟨ei, hei⟩ : ∃ d, eiB x7 wReal wPlain = d := ⟨_, rfl⟩
  obtain ⟨lv, hlv⟩ : ∃ d, nameN x8 = d := ⟨_, rfl⟩
  have Hlb := hid hlb
  have HH : Hid (aHead (x0, x1, x2, x3, x4, x5, cyc, x7, x8) = [⟨#[97, 110, 111, 109, 97, 108, 121]⟩, lb, d1, d2, d3, br, d5, ei, lv]) := by
    show _ = _
    unfold aHead
    simp only [hlb, hd1, hd2, hd3, hbr, hd5, hei, hlv]
    rfl
  have PW : Hid (∀ V, Below W.heap.size W V → Pow V.heap.size V) := fun V hb => hT.later (BW1.out.trans (hb.mono BW1.out.size)) (Nat.le_trans BW1.out.size hb.size)
  have NW : Hid (∀ V, Below W.heap.size W V → NamesAt V) := fun V hb => hN.later (BW1.out.trans (hb.mono BW1.out.size))
  have BLE : Hid (∀ V, Below W.heap.size W V → W.heap.size ≤ V.heap.size) := fun V hb => hb.size
  have I_d1 : Hid (∀ V, Below W.heap.size W V → Calls Tryd.prog 12 #[.int .i64 x1] V fun e w' => e = .returned (.string d1) ∧ Below V.heap.size V w') := fun V hb => by rw [← hd1]; exact itoa_is x1 r1 V (PW.out V hb)
  have I_d2 : Hid (∀ V, Below W.heap.size W V → Calls Tryd.prog 12 #[.int .i64 x2] V fun e w' => e = .returned (.string d2) ∧ Below V.heap.size V w') := fun V hb => by rw [← hd2]; exact itoa_is x2 r2 V (PW.out V hb)
  have I_d3 : Hid (∀ V, Below W.heap.size W V → Calls Tryd.prog 12 #[.int .i64 x3] V fun e w' => e = .returned (.string d3) ∧ Below V.heap.size V w') := fun V hb => by rw [← hd3]; exact itoa_is x3 r3 V (PW.out V hb)
  have I_d5 : Hid (∀ V, Below W.heap.size W V → Calls Tryd.prog 12 #[.int .i64 x5] V fun e w' => e = .returned (.string d5) ∧ Below V.heap.size V w') := fun V hb => by rw [← hd5]; exact itoa_is x5 r4 V (PW.out V hb)
  have I_br : Hid (∀ V, Calls Tryd.prog 32 #[.string x4] V fun e w' => e = .returned (.string br) ∧ Below V.heap.size V w') := fun V => by rw [← hbr]; exact brk_is x4 r5 V
  have I_ei : Hid (∀ V, Calls Tryd.prog 13 #[.bool x7, .string ⟨#[114, 101, 97, 108]⟩, .string ⟨#[112, 108, 97, 105, 110]⟩] V fun e w' => e = .returned (.string ei) ∧ Below V.heap.size V w') := fun V => by rw [← hei]; exact pqei_is x7 wReal wPlain V
  have I_lv : Hid (∀ V, Below W.heap.size W V → Calls Tryd.prog 15 #[.int .i64 x8] V fun e w' => e = .returned (.string lv) ∧ V = w') := fun V hb => by rw [← hlv]; exact lvName_is x8 V (NW.out V hb)
  have HC := hid hc
  have RW := hid r7
  have hcn : (cyc.length : Int) ≤ 300 := by omega
  have HO := hid ho
  clear BX hlb hd1 hd2 hd3 hbr hd5 hei hlv A1 hT hN hc r1 r2 r3 r4 r5 r7
  go_enter Tryd.func14, Tryd.ntmps14
  go_wp2_with fail
  clear hW ho
  refine wp_region_ask Tryd.mixedOrders (by kernel_rfl) (fun val => { tmps := #[_, _, _, val 26, _, _, val 0, val 1, val 2, val 3, val 4, val 5, val 6, val 7, val 8, val 9, val 10, val 11, val 12, val 13, val 14, val 15, val 16, val 17, val 18, val 19, val 20, val 21, val 22, val 23, val 24, val 25, _, _, _, _, _, _, _, _, _, _, _, _, _, _, _, _, _, _, _, _, _, _, _, _, _, _, _, _, _, _, _, _, _, _, _, _, _], defers := [] }) (fun i y V => match i with | 0 => ∃ g, y = .slice (some ⟨g, 0, none⟩) 12 12 ∧ WordsAt V g kindWs | 1 => y = .pointer (some ⟨o, 0, none⟩) | 2 => y = .int .i64 x0 | 3 => y = .string lb | 4 => y = .pointer (some ⟨o, 1, none⟩) | 5 => y = .int .i64 x1 | 6 => y = .string d1 | 7 => y = .pointer (some ⟨o, 2, none⟩) | 8 => y = .int .i64 x2 | 9 => y = .string d2 | 10 => y = .pointer (some ⟨o, 3, none⟩) | 11 => y = .int .i64 x3 | 12 => y = .string d3 | 13 => y = .pointer (some ⟨o, 4, none⟩) | 14 => y = .string x4 | 15 => y = .string br | 16 => y = .pointer (some ⟨o, 5, none⟩) | 17 => y = .int .i64 x5 | 18 => y = .string d5 | 19 => y = .pointer (some ⟨o, 7, none⟩) | 20 => y = .bool x7 | 21 => y = .string ei | 22 => y = .pointer (some ⟨o, 8, none⟩) | 23 => y = .int .i64 x8 | 24 => y = .string lv | 25 => ∃ g, y = .slice (some ⟨g, 0, none⟩) 9 9 ∧ W.heap.size ≤ g ∧ BoxW V g 9 #[.string ⟨#[97, 110, 111, 109, 97, 108, 121]⟩, .string lb, .string d1, .string d2, .string d3, .string br, .string d5, .string ei, .string lv] | 26 => ∃ g, y = .slice (some ⟨g, 0, none⟩) 9 9 ∧ W.heap.size ≤ g ∧ BoxW V g 9 #[.string ⟨#[97, 110, 111, 109, 97, 108, 121]⟩, .string lb, .string d1, .string d2, .string d3, .string br, .string d5, .string ei, .string lv] | _ => True) (fun i => match i with | 0 => undef | 1 => undef | 2 => undef | 3 => undef | 4 => undef | 5 => undef | 6 => undef | 7 => undef | 8 => undef | 9 => undef | 10 => undef | 11 => undef | 12 => undef | 13 => undef | 14 => undef | 15 => undef | 16 => undef | 17 => undef | 18 => undef | 19 => undef | 20 => undef | 21 => undef | 22 => undef | 23 => undef | 24 => undef | 25 => undef | 26 => undef | _ => undef) rfl ?_ _ rfl ⟨?_, ?_, ?_, ?_, ?_, ?_, ?_, ?_, ?_, ?_, ?_, ?_, ?_, ?_, ?_, ?_, ?_, ?_, ?_, ?_, ?_, ?_, ?_, ?_, ?_, ?_, ?_, trivial⟩ ?_
  · intro i v w w' h hb
    match i, h with
    | 0, h => exact h.imp fun g q => ⟨q.1, q.2.below hb⟩
    | 1, h => exact h
    | 2, h => exact h
    | 3, h => exact h
    | 4, h => exact h
    | 5, h => exact h
    | 6, h => exact h
    | 7, h => exact h
    | 8, h => exact h
    | 9, h => exact h
    | 10, h => exact h
    | 11, h => exact h
    | 12, h => exact h
    | 13, h => exact h
    | 14, h => exact h
    | 15, h => exact h
    | 16, h => exact h
    | 17, h => exact h
    | 18, h => exact h
    | 19, h => exact h
    | 20, h => exact h
    | 21, h => exact h
    | 22, h => exact h
    | 23, h => exact h
    | 24, h => exact h
    | 25, h => exact h.imp fun g q => ⟨q.1, q.2.1, q.2.2.later hb⟩
    | 26, h => exact h.imp fun g q => ⟨q.1, q.2.1, q.2.2.later hb⟩
    | _ + 27, h => trivial
  · refine ask_plain rfl (fun _ _ => rfl) (fun val V hb hd => ?_)
    refine does_call (f := 31) (args := #[]) ?_ (kinds_is V) ?_
    · simp [execOp, Act.eval, go_sem, resolve, invoke]
    · rintro e w2 ⟨rfl, rfl⟩
      exact ⟨_, rfl, ⟨_, rfl, words_is V kindWs⟩, below_box V _⟩
  · refine ask_plain rfl (fun _ _ => rfl) (fun val V hb hd => ?_)
    refine does_value (v := .pointer (some ⟨o, 0, none⟩)) ?_ rfl
    simp [execOp, Act.eval, go_sem]
  · refine ask_plain rfl (fun _ _ => rfl) (fun val V hb hd => ?_)
    have h1 : val 1 = .pointer (some ⟨o, 0, none⟩) := depsAll_get hd 1 (by kernel_rfl)
    have e_ := rx_later hb c0
    refine does_value (v := .int .i64 x0) ?_ rfl
    simp [execOp, Act.eval, go_sem, h1, e_]
  · refine ask_plain rfl (fun _ _ => rfl) (fun val V hb hd => ?_)
    obtain ⟨g, h0, hg⟩ := depsAll_get hd 0 (by kernel_rfl)
    have h2 : val 2 = .int .i64 x0 := depsAll_get hd 2 (by kernel_rfl)
    refine does_call (f := 25) (args := #[.slice (some ⟨g, 0, none⟩) 12 12, .int .i64 x0]) ?_ (wordOf_is g 12 kindWs _ V hg (by decide)) ?_
    · simp [execOp, Act.eval, go_sem, resolve, invoke, h0, h2]
    · rintro e w2 ⟨rfl, rfl⟩
      exact ⟨_, rfl, by show _ = _; rw [Hlb.out], Below.refl _ _⟩
  · refine ask_plain rfl (fun _ _ => rfl) (fun val V hb hd => ?_)
    refine does_value (v := .pointer (some ⟨o, 1, none⟩)) ?_ rfl
    simp [execOp, Act.eval, go_sem]
  · refine ask_plain rfl (fun _ _ => rfl) (fun val V hb hd => ?_)
    have h4 : val 4 = .pointer (some ⟨o, 1, none⟩) := depsAll_get hd 4 (by kernel_rfl)
    have e_ := rx_later hb c1
    refine does_value (v := .int .i64 x1) ?_ rfl
    simp [execOp, Act.eval, go_sem, h4, e_]
  · refine ask_plain rfl (fun _ _ => rfl) (fun val V hb hd => ?_)
    have h5 : val 5 = .int .i64 x1 := depsAll_get hd 5 (by kernel_rfl)
    refine does_call (f := 12) (args := #[.int .i64 x1]) ?_ (I_d1.out V hb) ?_
    · simp [execOp, Act.eval, go_sem, resolve, invoke, h5]
    · rintro e w2 ⟨rfl, hb2⟩
      exact ⟨_, rfl, rfl, hb2⟩
  · refine ask_plain rfl (fun _ _ => rfl) (fun val V hb hd => ?_)
    refine does_value (v := .pointer (some ⟨o, 2, none⟩)) ?_ rfl
    simp [execOp, Act.eval, go_sem]
  · refine ask_plain rfl (fun _ _ => rfl) (fun val V hb hd => ?_)
    have h7 : val 7 = .pointer (some ⟨o, 2, none⟩) := depsAll_get hd 7 (by kernel_rfl)
    have e_ := rx_later hb c2
    refine does_value (v := .int .i64 x2) ?_ rfl
    simp [execOp, Act.eval, go_sem, h7, e_]
  · refine ask_plain rfl (fun _ _ => rfl) (fun val V hb hd => ?_)
    have h8 : val 8 = .int .i64 x2 := depsAll_get hd 8 (by kernel_rfl)
    refine does_call (f := 12) (args := #[.int .i64 x2]) ?_ (I_d2.out V hb) ?_
    · simp [execOp, Act.eval, go_sem, resolve, invoke, h8]
    · rintro e w2 ⟨rfl, hb2⟩
      exact ⟨_, rfl, rfl, hb2⟩
  · refine ask_plain rfl (fun _ _ => rfl) (fun val V hb hd => ?_)
    refine does_value (v := .pointer (some ⟨o, 3, none⟩)) ?_ rfl
    simp [execOp, Act.eval, go_sem]
  · refine ask_plain rfl (fun _ _ => rfl) (fun val V hb hd => ?_)
    have h10 : val 10 = .pointer (some ⟨o, 3, none⟩) := depsAll_get hd 10 (by kernel_rfl)
    have e_ := rx_later hb c3
    refine does_value (v := .int .i64 x3) ?_ rfl
    simp [execOp, Act.eval, go_sem, h10, e_]
  · refine ask_plain rfl (fun _ _ => rfl) (fun val V hb hd => ?_)
    have h11 : val 11 = .int .i64 x3 := depsAll_get hd 11 (by kernel_rfl)
    refine does_call (f := 12) (args := #[.int .i64 x3]) ?_ (I_d3.out V hb) ?_
    · simp [execOp, Act.eval, go_sem, resolve, invoke, h11]
    · rintro e w2 ⟨rfl, hb2⟩
      exact ⟨_, rfl, rfl, hb2⟩
  · refine ask_plain rfl (fun _ _ => rfl) (fun val V hb hd => ?_)
    refine does_value (v := .pointer (some ⟨o, 4, none⟩)) ?_ rfl
    simp [execOp, Act.eval, go_sem]
  · refine ask_plain rfl (fun _ _ => rfl) (fun val V hb hd => ?_)
    have h13 : val 13 = .pointer (some ⟨o, 4, none⟩) := depsAll_get hd 13 (by kernel_rfl)
    have e_ := rx_later hb c4
    refine does_value (v := .string x4) ?_ rfl
    simp [execOp, Act.eval, go_sem, h13, e_]
  · refine ask_plain rfl (fun _ _ => rfl) (fun val V hb hd => ?_)
    have h14 : val 14 = .string x4 := depsAll_get hd 14 (by kernel_rfl)
    refine does_call (f := 32) (args := #[.string x4]) ?_ (I_br.out V) ?_
    · simp [execOp, Act.eval, go_sem, resolve, invoke, h14]
    · rintro e w2 ⟨rfl, hb2⟩
      exact ⟨_, rfl, rfl, hb2⟩
  · refine ask_plain rfl (fun _ _ => rfl) (fun val V hb hd => ?_)
    refine does_value (v := .pointer (some ⟨o, 5, none⟩)) ?_ rfl
    simp [execOp, Act.eval, go_sem]
  · refine ask_plain rfl (fun _ _ => rfl) (fun val V hb hd => ?_)
    have h16 : val 16 = .pointer (some ⟨o, 5, none⟩) := depsAll_get hd 16 (by kernel_rfl)
    have e_ := rx_later hb c5
    refine does_value (v := .int .i64 x5) ?_ rfl
    simp [execOp, Act.eval, go_sem, h16, e_]
  · refine ask_plain rfl (fun _ _ => rfl) (fun val V hb hd => ?_)
    have h17 : val 17 = .int .i64 x5 := depsAll_get hd 17 (by kernel_rfl)
    refine does_call (f := 12) (args := #[.int .i64 x5]) ?_ (I_d5.out V hb) ?_
    · simp [execOp, Act.eval, go_sem, resolve, invoke, h17]
    · rintro e w2 ⟨rfl, hb2⟩
      exact ⟨_, rfl, rfl, hb2⟩
  · refine ask_plain rfl (fun _ _ => rfl) (fun val V hb hd => ?_)
    refine does_value (v := .pointer (some ⟨o, 7, none⟩)) ?_ rfl
    simp [execOp, Act.eval, go_sem]
  · refine ask_plain rfl (fun _ _ => rfl) (fun val V hb hd => ?_)
    have h19 : val 19 = .pointer (some ⟨o, 7, none⟩) := depsAll_get hd 19 (by kernel_rfl)
    have e_ := rx_later hb c7
    refine does_value (v := .bool x7) ?_ rfl
    simp [execOp, Act.eval, go_sem, h19, e_]
  · refine ask_plain rfl (fun _ _ => rfl) (fun val V hb hd => ?_)
    have h20 : val 20 = .bool x7 := depsAll_get hd 20 (by kernel_rfl)
    refine does_call (f := 13) (args := #[.bool x7, .string ⟨#[114, 101, 97, 108]⟩, .string ⟨#[112, 108, 97, 105, 110]⟩]) ?_ (I_ei.out V) ?_
    · simp [execOp, Act.eval, go_sem, resolve, invoke, h20]
    · rintro e w2 ⟨rfl, hb2⟩
      exact ⟨_, rfl, rfl, hb2⟩
  · refine ask_plain rfl (fun _ _ => rfl) (fun val V hb hd => ?_)
    refine does_value (v := .pointer (some ⟨o, 8, none⟩)) ?_ rfl
    simp [execOp, Act.eval, go_sem]
  · refine ask_plain rfl (fun _ _ => rfl) (fun val V hb hd => ?_)
    have h22 : val 22 = .pointer (some ⟨o, 8, none⟩) := depsAll_get hd 22 (by kernel_rfl)
    have e_ := rx_later hb c8
    refine does_value (v := .int .i64 x8) ?_ rfl
    simp [execOp, Act.eval, go_sem, h22, e_]
  · refine ask_plain rfl (fun _ _ => rfl) (fun val V hb hd => ?_)
    have h23 : val 23 = .int .i64 x8 := depsAll_get hd 23 (by kernel_rfl)
    refine does_call (f := 15) (args := #[.int .i64 x8]) ?_ (I_lv.out V hb) ?_
    · simp [execOp, Act.eval, go_sem, resolve, invoke, h23]
    · rintro e w2 ⟨rfl, rfl⟩
      exact ⟨_, rfl, rfl, Below.refl _ _⟩
  · refine ask_plain rfl (fun _ _ => rfl) (fun val V hb hd => ?_)
    have h3 : val 3 = .string lb := depsAll_get hd 3 (by kernel_rfl)
    have h6 : val 6 = .string d1 := depsAll_get hd 6 (by kernel_rfl)
    have h9 : val 9 = .string d2 := depsAll_get hd 9 (by kernel_rfl)
    have h12 : val 12 = .string d3 := depsAll_get hd 12 (by kernel_rfl)
    have h15 : val 15 = .string br := depsAll_get hd 15 (by kernel_rfl)
    have h18 : val 18 = .string d5 := depsAll_get hd 18 (by kernel_rfl)
    have h21 : val 21 = .string ei := depsAll_get hd 21 (by kernel_rfl)
    have h24 : val 24 = .string lv := depsAll_get hd 24 (by kernel_rfl)
    refine does_grown (v := .slice (some ⟨V.heap.size, 0, none⟩) 9 9) (w' := V.alloc (.cells #[.string ⟨#[97, 110, 111, 109, 97, 108, 121]⟩, .string lb, .string d1, .string d2, .string d3, .string br, .string d5, .string ei, .string lv] 9)) ?_ ⟨_, rfl, BLE.out V hb, box_new V _ 9⟩ (below_box V _)
    simp [execOp, Act.eval, go_sem, h3, h6, h9, h12, h15, h18, h21, h24]
  · refine ask_plain rfl (fun _ _ => rfl) (fun val V hb hd => ?_)
    obtain ⟨g, h25, hg, hbx⟩ := depsAll_get hd 25 (by kernel_rfl)
    refine does_value (v := .slice (some ⟨g, 0, none⟩) 9 9) ?_ ⟨g, rfl, hg, hbx⟩
    simp [execOp, Act.eval, go_sem, h25]
  · intro val V hb hR
    obtain ⟨g0, hr, hg0, hbx⟩ : ∃ g, val 26 = .slice (some ⟨g, 0, none⟩) 9 9 ∧ W.heap.size ≤ g ∧ BoxW V g 9 #[.string ⟨#[97, 110, 111, 109, 97, 108, 121]⟩, .string lb, .string d1, .string d2, .string d3, .string br, .string d5, .string ei, .string lv] := hR 26 (by decide)
    have BV := hid hb
    have S0 : Hid (SS W.heap.size V (.slice (some ⟨g0, 0, none⟩) 9 9) (aHead (x0, x1, x2, x3, x4, x5, cyc, x7, x8) ++ (cyc.take 0).flatMap wParts)) := by
      show SS _ _ _ _
      rw [HH.out]
      exact SS.made (l := [⟨#[97, 110, 111, 109, 97, 108, 121]⟩, lb, d1, d2, d3, br, d5, ei, lv]) hbx hg0 (by simp)
    have c6 : V.cell? ⟨o, 6, none⟩ = some (.slice ca cyc.length cc) := (HBX.out.later hb).cell 6
    clear hR hb hbx hg0
    simp only [hr]
    clear hr I_d1 I_d2 I_d3 I_d5 I_br I_ei I_lv c0 c1 c2 c3 c4 c5 c7 c8
    go_wp2_with fail
    go_loopg [3, 5, 35] cyc.length (fun gg v3 _ i wr => ∃ k : Nat, k ≤ cyc.length ∧ cyc.length - k ≤ gg ∧ i = .int .i64 k ∧ Aside (SS W.heap.size wr v3 (aHead (x0, x1, x2, x3, x4, x5, cyc, x7, x8) ++ (cyc.take k).flatMap wParts)) ∧ Aside (Below W.heap.size W wr))
    case atStart => exact ⟨0, Nat.zero_le _, by omega, rfl, S0.out, BV.out⟩
    case round =>
      clear S0 BV c6
      obtain ⟨k, hk, hg, rfl, SR, BR⟩ := hrel
      by_cases hlt : k < cyc.length
      · have hlti : (k : Int) < cyc.length := by omega
        have hk0 : (0 : Int) ≤ k := by omega
        have HCR := HC.out.later (BW1.out.trans (BR.out.mono BW1.out.size))
        obtain ⟨ao2, c2, e2, _, hrc⟩ := Tx.RowsIn.cells HCR (by omega)
        obtain ⟨b, off, cs, hab, hbl, hlen, hrow, hcs⟩ := hrc k hlt
        simp only [Value.slice.injEq, true_and] at e2
        obtain ⟨e2, e3⟩ := e2
        subst hab
        subst e2
        subst e3
        obtain ⟨⟨y0, y1, y2, y3, y4, y5, y6, y7⟩, hx⟩ : ∃ x, cyc.getD k default = x := ⟨_, rfl⟩
        have hRW := RW.out (cyc.getD k default) (by simp [List.getD, List.getElem?_eq_getElem hlt])
        rw [hx] at hrow hRW
        obtain ⟨q1, q2, q3, q4, q5⟩ := hRW
        subst hrow
        have HX := hid hx
        clear hx HCR hrc
        simp only at q1 q2 q3 q4 q5
        have k0 : wr.cell? ⟨b, off + k * 8, none⟩ = some (.int .i64 y0) := by simpa using hcs 0 (.int .i64 y0) rfl
        have k1 : wr.cell? ⟨b, off + k * 8 + 1, none⟩ = some (.int .i64 y1) := by simpa using hcs 1 (.int .i64 y1) rfl
        have k2 : wr.cell? ⟨b, off + k * 8 + 2, none⟩ = some (.int .i64 y2) := by simpa using hcs 2 (.int .i64 y2) rfl
        have k3 : wr.cell? ⟨b, off + k * 8 + 3, none⟩ = some (.string y3) := by simpa using hcs 3 (.string y3) rfl
        have k4 : wr.cell? ⟨b, off + k * 8 + 4, none⟩ = some (.int .i64 y4) := by simpa using hcs 4 (.int .i64 y4) rfl
        have k5 : wr.cell? ⟨b, off + k * 8 + 5, none⟩ = some (.int .i64 y5) := by simpa using hcs 5 (.int .i64 y5) rfl
        have k6 : wr.cell? ⟨b, off + k * 8 + 6, none⟩ = some (.bool y6) := by simpa using hcs 6 (.bool y6) rfl
        have k7 : wr.cell? ⟨b, off + k * 8 + 7, none⟩ = some (.bool y7) := by simpa using hcs 7 (.bool y7) rfl
        clear hcs hlen
        have BY := box_new wr #[.int .i64 y0, .int .i64 y1, .int .i64 y2, .string y3, .int .i64 y4, .int .i64 y5, .bool y6, .bool y7] 59
        have A2 := hid (below_box wr (.cells #[.int .i64 y0, .int .i64 y1, .int .i64 y2, .string y3, .int .i64 y4, .int .i64 y5, .bool y6, .bool y7] 59))
        obtain ⟨U, hU⟩ : ∃ U, wr.alloc (.cells #[.int .i64 y0, .int .i64 y1, .int .i64 y2, .string y3, .int .i64 y4, .int .i64 y5, .bool y6, .bool y7] 59) = U := ⟨_, rfl⟩
        obtain ⟨p, hp⟩ : ∃ p, wr.heap.size = p := ⟨_, rfl⟩
        have BU : Hid (Below wr.heap.size wr U) := by rw [← hU]; exact A2.out
        rw [hU, hp] at BY
        have f0 : U.cell? ⟨p, 0, none⟩ = some (.int .i64 y0) := BY.cell 0
        have f1 : U.cell? ⟨p, 1, none⟩ = some (.int .i64 y1) := BY.cell 1
        have f2 : U.cell? ⟨p, 2, none⟩ = some (.int .i64 y2) := BY.cell 2
        have f3 : U.cell? ⟨p, 3, none⟩ = some (.string y3) := BY.cell 3
        have f4 : U.cell? ⟨p, 4, none⟩ = some (.int .i64 y4) := BY.cell 4
        have f5 : U.cell? ⟨p, 5, none⟩ = some (.int .i64 y5) := BY.cell 5
        have f6 : U.cell? ⟨p, 6, none⟩ = some (.bool y6) := BY.cell 6
        have f7 : U.cell? ⟨p, 7, none⟩ = some (.bool y7) := BY.cell 7
        obtain ⟨lw, hlw⟩ : ∃ lb, wordN labelWs y2 = lb := ⟨_, rfl⟩
        obtain ⟨e0, he0⟩ : ∃ d, decB y0 = d := ⟨_, rfl⟩
        obtain ⟨e1, he1⟩ : ∃ d, decB y1 = d := ⟨_, rfl⟩
        obtain ⟨bk, hbk⟩ : ∃ d, brB y3 = d := ⟨_, rfl⟩
        obtain ⟨e4, he4⟩ : ∃ d, decB y4 = d := ⟨_, rfl⟩
        obtain ⟨e5, he5⟩ : ∃ d, decB y5 = d := ⟨_, rfl⟩
        obtain ⟨en, hen⟩ : ∃ d, eiB y6 wNil wValue = d := ⟨_, rfl⟩
        obtain ⟨ec, hec⟩ : ∃ d, eiB y7 wCond wSure = d := ⟨_, rfl⟩
        have Hlw := hid hlw
        have HP : Hid (wParts (y0, y1, y2, y3, y4, y5, y6, y7) = [⟨#[91]⟩, e0, lw, e1, bk, e4, e5, en, ec, ⟨#[93]⟩]) := by
          show _ = _
          unfold wParts
          simp only [hlw, he0, he1, hbk, he4, he5, hen, hec]
          rfl
        have BRU : Hid (Below W.heap.size W U) := BR.out.trans (BU.out.mono BR.out.size)
        have PU : Hid (∀ V, Below U.heap.size U V → Pow V.heap.size V) := fun V hb => (PW.out U BRU.out).later hb hb.size
        have BLE : Hid (∀ V, Below U.heap.size U V → U.heap.size ≤ V.heap.size) := fun V hb => hb.size
        have I_e0 : Hid (∀ V, Below U.heap.size U V → Calls Tryd.prog 12 #[.int .i64 y0] V fun e w' => e = .returned (.string e0) ∧ Below V.heap.size V w') := fun V hb => by rw [← he0]; exact itoa_is y0 q1 V (PU.out V hb)
        have I_e1 : Hid (∀ V, Below U.heap.size U V → Calls Tryd.prog 12 #[.int .i64 y1] V fun e w' => e = .returned (.string e1) ∧ Below V.heap.size V w') := fun V hb => by rw [← he1]; exact itoa_is y1 q2 V (PU.out V hb)
        have I_e4 : Hid (∀ V, Below U.heap.size U V → Calls Tryd.prog 12 #[.int .i64 y4] V fun e w' => e = .returned (.string e4) ∧ Below V.heap.size V w') := fun V hb => by rw [← he4]; exact itoa_is y4 q3 V (PU.out V hb)
        have I_e5 : Hid (∀ V, Below U.heap.size U V → Calls Tryd.prog 12 #[.int .i64 y5] V fun e w' => e = .returned (.string e5) ∧ Below V.heap.size V w') := fun V hb => by rw [← he5]; exact itoa_is y5 q4 V (PU.out V hb)
        have I_bk : Hid (∀ V, Calls Tryd.prog 32 #[.string y3] V fun e w' => e = .returned (.string bk) ∧ Below V.heap.size V w') := fun V => by rw [← hbk]; exact brk_is y3 q5 V
        have I_en : Hid (∀ V, Calls Tryd.prog 13 #[.bool y6, .string ⟨#[110, 105, 108]⟩, .string ⟨#[118, 97, 108, 117, 101]⟩] V fun e w' => e = .returned (.string en) ∧ Below V.heap.size V w') := fun V => by rw [← hen]; exact pqei_is y6 wNil wValue V
        have I_ec : Hid (∀ V, Calls Tryd.prog 13 #[.bool y7, .string ⟨#[99, 111, 110, 100]⟩, .string ⟨#[115, 117, 114, 101]⟩] V fun e w' => e = .returned (.string ec) ∧ Below V.heap.size V w') := fun V => by rw [← hec]; exact pqei_is y7 wCond wSure V
        obtain ⟨L, hL⟩ : ∃ L, aHead (x0, x1, x2, x3, x4, x5, cyc, x7, x8) ++ (cyc.take k).flatMap wParts = L := ⟨_, rfl⟩
        have HL := hid hL
        have SR1 : Hid (SS W.heap.size U u3 L) := by
          have h := SR.out
          rw [hL] at h
          exact h.below BU.out (Nat.le_refl _)
        have HLn : Hid (L.length ≤ 4000) := by
          show _ ≤ _
          rw [← hL, List.length_append, flatMap_len wParts 10 (fun _ => rfl), List.length_take]
          have : (aHead (x0, x1, x2, x3, x4, x5, cyc, x7, x8)).length = 9 := rfl
          omega
        have HPO := hid hp
        clear BY A2 hlw he0 he1 hbk he4 he5 hen hec q1 q2 q3 q4 q5 hL SR
        go_wp2_with fail
        clear hU hp
        refine wp_region_then2 Tryd.mixedOrders (by kernel_rfl) 27 40 (fun s_ val => { tmps := #[_, _, _, s_, _, _, _, _, _, _, _, _, _, _, _, _, _, _, _, _, _, _, _, _, _, _, _, _, _, _, _, _, _, _, _, _, _, _, _, val 0, val 1, val 2, val 3, val 4, val 5, val 6, val 7, val 8, val 9, val 10, val 11, val 12, val 13, val 14, val 15, val 16, val 17, val 18, val 19, val 20, val 21, val 22, val 23, val 24, val 25, val 26, val 27, _, _], defers := [] }) u3 (fun i y V => match i with | 0 => y = u3 | 1 => y = .pointer (some ⟨p, 0, none⟩) | 2 => y = .int .i64 y0 | 3 => y = .string e0 | 4 => ∃ g, y = .slice (some ⟨g, 0, none⟩) 9 9 ∧ WordsAt V g labelWs | 5 => y = .pointer (some ⟨p, 2, none⟩) | 6 => y = .int .i64 y2 | 7 => y = .string lw | 8 => y = .pointer (some ⟨p, 1, none⟩) | 9 => y = .int .i64 y1 | 10 => y = .string e1 | 11 => y = .pointer (some ⟨p, 3, none⟩) | 12 => y = .string y3 | 13 => y = .string bk | 14 => y = .pointer (some ⟨p, 4, none⟩) | 15 => y = .int .i64 y4 | 16 => y = .string e4 | 17 => y = .pointer (some ⟨p, 5, none⟩) | 18 => y = .int .i64 y5 | 19 => y = .string e5 | 20 => y = .pointer (some ⟨p, 6, none⟩) | 21 => y = .bool y6 | 22 => y = .string en | 23 => y = .pointer (some ⟨p, 7, none⟩) | 24 => y = .bool y7 | 25 => y = .string ec | 26 => ∃ g, y = .slice (some ⟨g, 0, none⟩) 10 10 ∧ U.heap.size ≤ g ∧ BoxW V g 9 #[.string ⟨#[91]⟩, .string e0, .string lw, .string e1, .string bk, .string e4, .string e5, .string en, .string ec, .string ⟨#[93]⟩] | _ => True) (fun i => match i with | 0 => u39 | 1 => u40 | 2 => u41 | 3 => u42 | 4 => u43 | 5 => u44 | 6 => u45 | 7 => u46 | 8 => u47 | 9 => u48 | 10 => u49 | 11 => u50 | 12 => u51 | 13 => u52 | 14 => u53 | 15 => u54 | 16 => u55 | 17 => u56 | 18 => u57 | 19 => u58 | 20 => u59 | 21 => u60 | 22 => u61 | 23 => u62 | 24 => u63 | 25 => u64 | 26 => u65 | 27 => u66 | 28 => u3 | _ => undef) rfl rfl _ rfl rfl _ _ rfl rfl (by kernel_rfl) (by kernel_rfl) rfl rfl (fun _ _ => rfl) (fun _ _ => rfl) (by kernel_rfl) ?_ (fun v V => SS W.heap.size V v (L ++ wParts (y0, y1, y2, y3, y4, y5, y6, y7)) ∧ Below W.heap.size W V) ⟨?_, ?_, ?_, ?_, ?_, ?_, ?_, ?_, ?_, ?_, ?_, ?_, ?_, ?_, ?_, ?_, ?_, ?_, ?_, ?_, ?_, ?_, ?_, ?_, ?_, ?_, ?_, trivial⟩ ?_ ?_ ?_
        · intro i v w w' h hb
          match i, h with
          | 0, h => exact h
          | 1, h => exact h
          | 2, h => exact h
          | 3, h => exact h
          | 4, h => exact h.imp fun g q => ⟨q.1, q.2.below hb⟩
          | 5, h => exact h
          | 6, h => exact h
          | 7, h => exact h
          | 8, h => exact h
          | 9, h => exact h
          | 10, h => exact h
          | 11, h => exact h
          | 12, h => exact h
          | 13, h => exact h
          | 14, h => exact h
          | 15, h => exact h
          | 16, h => exact h
          | 17, h => exact h
          | 18, h => exact h
          | 19, h => exact h
          | 20, h => exact h
          | 21, h => exact h
          | 22, h => exact h
          | 23, h => exact h
          | 24, h => exact h
          | 25, h => exact h
          | 26, h => exact h.imp fun g q => ⟨q.1, q.2.1, q.2.2.later hb⟩
          | _ + 27, h => trivial
        · refine ask_plain rfl (fun _ _ => rfl) (fun val V hb hd => ?_)
          refine does_value (v := u3) ?_ rfl
          simp [execOp, Act.eval, go_sem]
        · refine ask_plain rfl (fun _ _ => rfl) (fun val V hb hd => ?_)
          refine does_value (v := .pointer (some ⟨p, 0, none⟩)) ?_ rfl
          simp [execOp, Act.eval, go_sem]
        · refine ask_plain rfl (fun _ _ => rfl) (fun val V hb hd => ?_)
          have h1 : val 1 = .pointer (some ⟨p, 0, none⟩) := depsAll_get hd 1 (by kernel_rfl)
          have e_ := rx_later hb f0
          refine does_value (v := .int .i64 y0) ?_ rfl
          simp [execOp, Act.eval, go_sem, h1, e_]
        · refine ask_plain rfl (fun _ _ => rfl) (fun val V hb hd => ?_)
          have h2 : val 2 = .int .i64 y0 := depsAll_get hd 2 (by kernel_rfl)
          refine does_call (f := 12) (args := #[.int .i64 y0]) ?_ (I_e0.out V hb) ?_
          · simp [execOp, Act.eval, go_sem, resolve, invoke, h2]
          · rintro e w2 ⟨rfl, hb2⟩
            exact ⟨_, rfl, rfl, hb2⟩
        · refine ask_plain rfl (fun _ _ => rfl) (fun val V hb hd => ?_)
          refine does_call (f := 33) (args := #[]) ?_ (labels_is V) ?_
          · simp [execOp, Act.eval, go_sem, resolve, invoke]
          · rintro e w2 ⟨rfl, rfl⟩
            exact ⟨_, rfl, ⟨_, rfl, words_is V labelWs⟩, below_box V _⟩
        · refine ask_plain rfl (fun _ _ => rfl) (fun val V hb hd => ?_)
          refine does_value (v := .pointer (some ⟨p, 2, none⟩)) ?_ rfl
          simp [execOp, Act.eval, go_sem]
        · refine ask_plain rfl (fun _ _ => rfl) (fun val V hb hd => ?_)
          have h5 : val 5 = .pointer (some ⟨p, 2, none⟩) := depsAll_get hd 5 (by kernel_rfl)
          have e_ := rx_later hb f2
          refine does_value (v := .int .i64 y2) ?_ rfl
          simp [execOp, Act.eval, go_sem, h5, e_]
        · refine ask_plain rfl (fun _ _ => rfl) (fun val V hb hd => ?_)
          obtain ⟨g, h4, hg⟩ := depsAll_get hd 4 (by kernel_rfl)
          have h6 : val 6 = .int .i64 y2 := depsAll_get hd 6 (by kernel_rfl)
          refine does_call (f := 25) (args := #[.slice (some ⟨g, 0, none⟩) 9 9, .int .i64 y2]) ?_ (wordOf_is g 9 labelWs _ V hg (by decide)) ?_
          · simp [execOp, Act.eval, go_sem, resolve, invoke, h4, h6]
          · rintro e w2 ⟨rfl, rfl⟩
            exact ⟨_, rfl, by show _ = _; rw [Hlw.out], Below.refl _ _⟩
        · refine ask_plain rfl (fun _ _ => rfl) (fun val V hb hd => ?_)
          refine does_value (v := .pointer (some ⟨p, 1, none⟩)) ?_ rfl
          simp [execOp, Act.eval, go_sem]
        · refine ask_plain rfl (fun _ _ => rfl) (fun val V hb hd => ?_)
          have h8 : val 8 = .pointer (some ⟨p, 1, none⟩) := depsAll_get hd 8 (by kernel_rfl)
          have e_ := rx_later hb f1
          refine does_value (v := .int .i64 y1) ?_ rfl
          simp [execOp, Act.eval, go_sem, h8, e_]
        · refine ask_plain rfl (fun _ _ => rfl) (fun val V hb hd => ?_)
          have h9 : val 9 = .int .i64 y1 := depsAll_get hd 9 (by kernel_rfl)
          refine does_call (f := 12) (args := #[.int .i64 y1]) ?_ (I_e1.out V hb) ?_
          · simp [execOp, Act.eval, go_sem, resolve, invoke, h9]
          · rintro e w2 ⟨rfl, hb2⟩
            exact ⟨_, rfl, rfl, hb2⟩
        · refine ask_plain rfl (fun _ _ => rfl) (fun val V hb hd => ?_)
          refine does_value (v := .pointer (some ⟨p, 3, none⟩)) ?_ rfl
          simp [execOp, Act.eval, go_sem]
        · refine ask_plain rfl (fun _ _ => rfl) (fun val V hb hd => ?_)
          have h11 : val 11 = .pointer (some ⟨p, 3, none⟩) := depsAll_get hd 11 (by kernel_rfl)
          have e_ := rx_later hb f3
          refine does_value (v := .string y3) ?_ rfl
          simp [execOp, Act.eval, go_sem, h11, e_]
        · refine ask_plain rfl (fun _ _ => rfl) (fun val V hb hd => ?_)
          have h12 : val 12 = .string y3 := depsAll_get hd 12 (by kernel_rfl)
          refine does_call (f := 32) (args := #[.string y3]) ?_ (I_bk.out V) ?_
          · simp [execOp, Act.eval, go_sem, resolve, invoke, h12]
          · rintro e w2 ⟨rfl, hb2⟩
            exact ⟨_, rfl, rfl, hb2⟩
        · refine ask_plain rfl (fun _ _ => rfl) (fun val V hb hd => ?_)
          refine does_value (v := .pointer (some ⟨p, 4, none⟩)) ?_ rfl
          simp [execOp, Act.eval, go_sem]
        · refine ask_plain rfl (fun _ _ => rfl) (fun val V hb hd => ?_)
          have h14 : val 14 = .pointer (some ⟨p, 4, none⟩) := depsAll_get hd 14 (by kernel_rfl)
          have e_ := rx_later hb f4
          refine does_value (v := .int .i64 y4) ?_ rfl
          simp [execOp, Act.eval, go_sem, h14, e_]
        · refine ask_plain rfl (fun _ _ => rfl) (fun val V hb hd => ?_)
          have h15 : val 15 = .int .i64 y4 := depsAll_get hd 15 (by kernel_rfl)
          refine does_call (f := 12) (args := #[.int .i64 y4]) ?_ (I_e4.out V hb) ?_
          · simp [execOp, Act.eval, go_sem, resolve, invoke, h15]
          · rintro e w2 ⟨rfl, hb2⟩
            exact ⟨_, rfl, rfl, hb2⟩
        · refine ask_plain rfl (fun _ _ => rfl) (fun val V hb hd => ?_)
          refine does_value (v := .pointer (some ⟨p, 5, none⟩)) ?_ rfl
          simp [execOp, Act.eval, go_sem]
        · refine ask_plain rfl (fun _ _ => rfl) (fun val V hb hd => ?_)
          have h17 : val 17 = .pointer (some ⟨p, 5, none⟩) := depsAll_get hd 17 (by kernel_rfl)
          have e_ := rx_later hb f5
          refine does_value (v := .int .i64 y5) ?_ rfl
          simp [execOp, Act.eval, go_sem, h17, e_]
        · refine ask_plain rfl (fun _ _ => rfl) (fun val V hb hd => ?_)
          have h18 : val 18 = .int .i64 y5 := depsAll_get hd 18 (by kernel_rfl)
          refine does_call (f := 12) (args := #[.int .i64 y5]) ?_ (I_e5.out V hb) ?_
          · simp [execOp, Act.eval, go_sem, resolve, invoke, h18]
          · rintro e w2 ⟨rfl, hb2⟩
            exact ⟨_, rfl, rfl, hb2⟩
        · refine ask_plain rfl (fun _ _ => rfl) (fun val V hb hd => ?_)
          refine does_value (v := .pointer (some ⟨p, 6, none⟩)) ?_ rfl
          simp [execOp, Act.eval, go_sem]
        · refine ask_plain rfl (fun _ _ => rfl) (fun val V hb hd => ?_)
          have h20 : val 20 = .pointer (some ⟨p, 6, none⟩) := depsAll_get hd 20 (by kernel_rfl)
          have e_ := rx_later hb f6
          refine does_value (v := .bool y6) ?_ rfl
          simp [execOp, Act.eval, go_sem, h20, e_]
        · refine ask_plain rfl (fun _ _ => rfl) (fun val V hb hd => ?_)
          have h21 : val 21 = .bool y6 := depsAll_get hd 21 (by kernel_rfl)
          refine does_call (f := 13) (args := #[.bool y6, .string ⟨#[110, 105, 108]⟩, .string ⟨#[118, 97, 108, 117, 101]⟩]) ?_ (I_en.out V) ?_
          · simp [execOp, Act.eval, go_sem, resolve, invoke, h21]
          · rintro e w2 ⟨rfl, hb2⟩
            exact ⟨_, rfl, rfl, hb2⟩
        · refine ask_plain rfl (fun _ _ => rfl) (fun val V hb hd => ?_)
          refine does_value (v := .pointer (some ⟨p, 7, none⟩)) ?_ rfl
          simp [execOp, Act.eval, go_sem]
        · refine ask_plain rfl (fun _ _ => rfl) (fun val V hb hd => ?_)
          have h23 : val 23 = .pointer (some ⟨p, 7, none⟩) := depsAll_get hd 23 (by kernel_rfl)
          have e_ := rx_later hb f7
          refine does_value (v := .bool y7) ?_ rfl
          simp [execOp, Act.eval, go_sem, h23, e_]
        · refine ask_plain rfl (fun _ _ => rfl) (fun val V hb hd => ?_)
          have h24 : val 24 = .bool y7 := depsAll_get hd 24 (by kernel_rfl)
          refine does_call (f := 13) (args := #[.bool y7, .string ⟨#[99, 111, 110, 100]⟩, .string ⟨#[115, 117, 114, 101]⟩]) ?_ (I_ec.out V) ?_
          · simp [execOp, Act.eval, go_sem, resolve, invoke, h24]
          · rintro e w2 ⟨rfl, hb2⟩
            exact ⟨_, rfl, rfl, hb2⟩
        · refine ask_plain rfl (fun _ _ => rfl) (fun val V hb hd => ?_)
          have h3 : val 3 = .string e0 := depsAll_get hd 3 (by kernel_rfl)
          have h7 : val 7 = .string lw := depsAll_get hd 7 (by kernel_rfl)
          have h10 : val 10 = .string e1 := depsAll_get hd 10 (by kernel_rfl)
          have h13 : val 13 = .string bk := depsAll_get hd 13 (by kernel_rfl)
          have h16 : val 16 = .string e4 := depsAll_get hd 16 (by kernel_rfl)
          have h19 : val 19 = .string e5 := depsAll_get hd 19 (by kernel_rfl)
          have h22 : val 22 = .string en := depsAll_get hd 22 (by kernel_rfl)
          have h25 : val 25 = .string ec := depsAll_get hd 25 (by kernel_rfl)
          refine does_grown (v := .slice (some ⟨V.heap.size, 0, none⟩) 10 10) (w' := V.alloc (.cells #[.string ⟨#[91]⟩, .string e0, .string lw, .string e1, .string bk, .string e4, .string e5, .string en, .string ec, .string ⟨#[93]⟩] 9)) ?_ ⟨_, rfl, BLE.out V hb, box_new V _ 9⟩ (below_box V _)
          simp [execOp, Act.eval, go_sem, h3, h7, h10, h13, h16, h19, h22, h25]
        · intro val V hb hd K hK
          have h0 : val 0 = u3 := depsAll_get hd 0 (by kernel_rfl)
          obtain ⟨g, h26, hg, hbx⟩ := depsAll_get hd 26 (by kernel_rfl)
          have hsz : W.heap.size ≤ V.heap.size := Nat.le_trans BRU.out.size hb.size
          refine wp_appendS W.heap.size V _ _ rfl u3 L (wParts (y0, y1, y2, y3, y4, y5, y6, y7)) 10 rfl (show val 0 = _ from h0) g (show val 26 = _ from h26) (by rw [HP.out]; exact hbx) (SR1.out.below hb (Nat.le_refl _)) hsz (by have := HLn.out; omega) (by rw [HP.out]; simp) (by rw [HP.out]; simp) (fun v2 V2 hs hb2 => hK v2 V2 ⟨hs, ?_⟩)
          exact (BRU.out.trans (hb.mono BRU.out.size)).trans hb2
        · intro val V
          simp [execOp, Act.eval, go_sem]
        · rintro val V ⟨hs, hbV⟩
          have HS := hid hs
          have HB := hid hbV
          clear hs hbV
          go_wp2_with fail
          go_roundg (cyc.length - (k + 1))
          case measure => omega
          case rel =>
            refine ⟨k + 1, by omega, by omega, by go_num, ?_, HB.out⟩
            show SS _ _ _ _
            rw [take_flat wParts hlt HX.out, ← List.append_assoc, HL.out]
            exact HS.out
      · obtain rfl : k = cyc.length := by omega
        go_wp2_with fail
        go_ret
        refine ⟨_, rfl, ?_, BW1.out.trans (BR.out.mono BW1.out.size)⟩
        have h := SR.out
        rw [List.take_of_length_le (Nat.le_refl _)] at h
        exact h.mono BW1.out.size
end Go.Proofs.YtkpomcimaofkkaaDoor.Rp
