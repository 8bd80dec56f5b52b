/-
  The code's parser of a history's text: lists that grow beside the parser's box; a list of numbers.
  The code's parser of a history's text: an operation's six cells in a box; an operation, plain, part by part.
-/
import Derived.Test.YtegeiojcdjnmjaaGreatDoorL12
namespace Go.Proofs.YtegeiojcdjnmjaaGreatDoor
set_option linter.unusedVariables false
set_option linter.unusedSimpArgs false
open Go.RowKit

/-- What a part of the parser leaves, where its value leads to memory. -/
def ToldR {α : Type} (bx : Nat) (en : Int) (T : List MTok) (w : World) (R : α → Value → World → Prop) (p : Ps α) (e : Ending) (w' : World) : Prop := match p with
  | .ok z => (∃ m, z.2 = T.drop m ∧ PB bx en T m w') ∧ (∃ v, e = .returned v ∧ R z.1 v w') ∧ Beside bx w w'
  | .error f => e = gaveUp f.1 f.2 ∧ Beside bx w w'
theorem Beside.keepsIn {bx B : Nat} {w w' : World} (h : Beside bx w w') (hB : bx < B) (S : Nat → Prop) (hS : ∀ b, S b → B ≤ b) : KeepsIn S w w' := fun b hb hlt => h.block b hlt (by have := hS b hb; omega)
theorem Beside.later {bx : Nat} {w w3 w4 : World} (h : Beside bx w w3) (hb : Below w.heap.size w3 w4) : Beside bx w w4 :=
  ⟨hb.os.trans h.os, hb.tape.trans h.tape, hb.output.trans h.output, Nat.le_trans h.size hb.size, fun k hk hn => (hb.block k hk).trans (h.block k hk hn)⟩
section
variable {α : Type} [Inhabited α] {e size : Nat} {R : (Nat → Prop) → World → List Value → α → Prop} {B bx : Nat} {wr w3 w4 : World} {v : Value} {n : Nat} {rows : List (List Value)} {l : List α}
theorem OutInv.beside (hkeep : ∀ (S T : Nat → Prop) w w' cs x, R S w cs x → KeepsIn S w w' → (∀ b, b < w.heap.size → S b → T b) → R T w' cs x) (h : OutInv e size R B wr v n rows l) (hb : Beside bx wr w3) (hB : bx < B) : OutInv e size R B w3 v n rows l :=
  ⟨h.rn, h.ln, owns_keep h.own (fun g hg => hb.block g (h.own.lt g hg).2 (by have := (h.own.lt g hg).1; omega)), h.sizes, fun j hj => hkeep _ _ _ _ _ _ (h.each j hj) (hb.keepsIn hB _ (fun b hS => hS.1)) (fun _ _ h => h)⟩
theorem OutInv.grow (hkeep : ∀ (S T : Nat → Prop) w w' cs x, R S w cs x → KeepsIn S w w' → (∀ b, b < w.heap.size → S b → T b) → R T w' cs x)
    (h : OutInv e size R B wr v n rows l) (hB : B ≤ wr.heap.size) (hbx : bx < B) (h3 : Beside bx wr w3) {row : List Value} {x : α} (hrow : R (fun b => wr.heap.size ≤ b) w3 row x) (hlen : row.length = size)
    {g cap : Nat} (hown : w4.ownsRow B e size (.slice (some ⟨g, 0, none⟩) (n + 1) cap) (n + 1) (rows.flatten ++ row)) (hgrow : w3.grownBy w4 v.ownBlock) (hat : v.ownBlock = some g ∨ g = w3.heap.size) :
    OutInv e size R B w4 (.slice (some ⟨g, 0, none⟩) (n + 1) cap) (n + 1) (rows ++ [row]) (l ++ [x]) := by
  have hsz := h3.size
  have hlt : ∀ k, v.ownBlock = some k → k < wr.heap.size := fun k hk => (h.own.lt k hk).2
  refine ⟨by simp [h.rn], by simp [h.ln], by simpa using hown, ?_, fun j hj => ?_⟩
  · intro r hr
    rcases List.mem_append.1 hr with hr | hr
    · exact h.sizes r hr
    · simp at hr; rw [hr]; exact hlen
  · by_cases hjn : j < n
    · have e1 : (rows ++ [row]).getD j [] = rows.getD j [] := by simp [List.getD, List.getElem?_append_left (show j < rows.length by rw [h.rn]; exact hjn)]
      have e2 : (l ++ [x]).getD j default = l.getD j default := by simp [List.getD, List.getElem?_append_left (show j < l.length by rw [h.ln]; exact hjn)]
      rw [e1, e2]
      refine hkeep _ _ wr w4 _ _ (h.each j hjn) (fun b hb hbl => ?_) (fun b hbl hb => ⟨hb.1, ?_⟩)
      · exact (hgrow.block b (by omega) (fun e => hb.2 e.symm)).trans (h3.block b hbl (by have := hb.1; omega))
      · simp only [Value.ownBlock]
        intro e
        cases e
        rcases hat with h' | h'
        · exact hb.2 h'
        · omega
    · have hjn' : j = n := by omega
      subst hjn'
      have e1 : (rows ++ [row]).getD j [] = row := by simp [List.getD, ← h.rn]
      have e2 : (l ++ [x]).getD j default = x := by simp [List.getD, ← h.ln]
      rw [e1, e2]
      refine hkeep _ _ w3 w4 _ _ hrow (fun b hb hbl => ?_) (fun b hbl hb => ⟨by omega, ?_⟩)
      · exact hgrow.block b hbl (fun e => by have := hlt b e.symm; omega)
      · simp only [Value.ownBlock]
        intro e
        cases e
        rcases hat with h' | h'
        · have := hlt _ h'; omega
        · omega
theorem OutInv.sliceV (h : OutInv e size R B wr v n rows l) : ∃ a c, v = .slice a n c := by
  rcases h.own.2 with ⟨hv, hn⟩ | ⟨g, cap, cur, hv, _⟩
  · exact ⟨none, 0, by rw [hv, hn]⟩
  · exact ⟨_, cap, hv⟩
end
/-- The cell of a number. -/
def RI (S : Nat → Prop) (w : World) (cs : List Value) (x : Int) : Prop := cs = [.int .i64 x]
theorem ri_keep (S T : Nat → Prop) (w w' : World) (cs : List Value) (x : Int) (h : RI S w cs x) (_ : KeepsIn S w w') (_ : ∀ b, b < w.heap.size → S b → T b) : RI T w' cs x := h
theorem ints_of_out {B n : Nat} {w : World} {v : Value} {rows : List (List Value)} {l : List Int} (h : OutInv 3 1 RI B w v n rows l) (hn : n * 8 ≤ 140737488355328) : IntsIn (fun b => B ≤ b) w v l := by
  obtain ⟨ao, c, hv, hl, hc⟩ := h.rows_in ri_keep hn
  refine ⟨ao, c, hv, hl, fun h0 => ?_⟩
  obtain ⟨b, off, ha, hb, hj⟩ := hc h0
  refine ⟨b, off, ha, hb, fun j hjl => ?_⟩
  obtain ⟨cs, hlen, hr, hcs⟩ := hj j hjl
  have hr2 : cs = [.int .i64 (l.getD j default)] := hr
  subst hr2
  have := hcs 0 _ rfl
  simpa using this
theorem pNums_more {en : Int} {T : List MTok} {k : Nat} {acc : List Int} (h2 : (lookT en T k).1 = 2) (h40 : ¬ acc.length = 40) : pNums en (T.drop k) acc = pNums en (T.drop (k + 1)) (acc ++ [(lookT en T k).2.2.2]) := by
  obtain ⟨hn, hd⟩ := drop_look (en := en) (T := T) (n := k) (by rw [h2]; decide)
  rw [hd]
  show (if (lookT en T k).1 = 2 then _ else _) = _
  rw [if_pos h2, if_neg h40]
theorem pNums_full {en : Int} {T : List MTok} {k : Nat} {acc : List Int} (h2 : (lookT en T k).1 = 2) (h40 : acc.length = 40) : pNums en (T.drop k) acc = .error (nextAt en (T.drop k), 4) := by
  obtain ⟨hn, hd⟩ := drop_look (en := en) (T := T) (n := k) (by rw [h2]; decide)
  rw [hd]
  show (if (lookT en T k).1 = 2 then _ else _) = _
  rw [if_pos h2, if_pos h40]
  rfl
theorem pNums_end {en : Int} {T : List MTok} {k : Nat} {acc : List Int} (h2 : ¬ (lookT en T k).1 = 2) : pNums en (T.drop k) acc = .ok (acc, T.drop k) := by
  by_cases hn : k < T.length
  · have hd : T.drop k = lookT en T k :: T.drop (k + 1) := by
      rw [look_in hn, List.drop_eq_getElem_cons hn]; simp [List.getD, hn]
    rw [hd]
    show (if (lookT en T k).1 = 2 then _ else _) = _
    rw [if_neg h2]
  · rw [List.drop_eq_nil_of_le (by omega)]; rfl
theorem pNum_ok {en : Int} {T : List MTok} {k : Nat} (h2 : (lookT en T k).1 = 2) : pNum en (T.drop k) = .ok ((lookT en T k).2.2.2, T.drop (k + 1)) := by
  obtain ⟨hn, hd⟩ := drop_look (en := en) (T := T) (n := k) (by rw [h2]; decide)
  rw [hd]
  exact if_pos h2
theorem tokf0 (a b : Int) (c : ByteArray) (d : Int) (W : World) : (Instr.field 57 (.agg #[.int .i64 a, .int .i64 b, .string c, .int .i64 d]) 0).run Tryz.prog W = .ok (.int .i64 a) W := by kernel_rfl
def pTail (en : Int) (p : Ps (List Int)) : Ps (List Int) := andP p fun xs l2 => andP (pMark en ⟨#[41]⟩ l2) fun _ l3 => .ok (xs, l3)
theorem pList_err {en : Int} {l : List MTok} {f : Int × Int} (h : pMark en ⟨#[40]⟩ l = .error f) : pList en l = .error f := by unfold pList; rw [h]; rfl
theorem pList_ok {en : Int} {l l1 : List MTok} {u : Unit} (h : pMark en ⟨#[40]⟩ l = .ok (u, l1)) : pList en l = pTail en (pNums en l1 []) := by unfold pList; rw [h]; rfl
set_option maxHeartbeats 4000000 in
set_option maxRecDepth 100000 in
theorem list_is (bx n : Nat) (en : Int) (T : List MTok) (w : World) (h : PB bx en T n w) :
    Calls Tryz.prog 87 #[.pointer (some ⟨bx, 0, none⟩)] w (ToldR bx en T w (fun xs v w' => IntsIn (fun b => w.heap.size ≤ b) w' v xs) (pList en (T.drop n))) := by
  have hlt := h.lt
  have M1 := hid (mark_is bx n en ⟨#[40]⟩ T w h)
  clear h
  cases hp : pMark en ⟨#[40]⟩ (T.drop n) with
  | error f =>
    rw [pList_err hp]
    rw [hp] at M1
    go_enter Tryz.func87, Tryz.ntmps87
    go_wp2_with fail
    go_at_call 84
    refine M1.out.mono ?_
    rintro e w1 ⟨rfl, b1⟩
    exact ⟨rfl, rfl, b1⟩
  | ok z =>
    obtain ⟨u, l1⟩ := z
    rw [pList_ok hp]
    rw [hp] at M1
    obtain ⟨i0, hi, hz0, hz1, hz2⟩ := info_parts Tryz.infoInt
    have HI := hid hi
    have HZ0 := hid hz0
    have HZ1 := hid hz1
    have HZ2 := hid hz2
    clear hi hz0 hz1 hz2
    go_enter Tryz.func87, Tryz.ntmps87
    go_wp2_with fail
    go_at_call 84
    refine M1.out.mono ?_
    rintro e w1 ⟨⟨m1, hm1, P1⟩, rfl, b1⟩
    have hm1' : l1 = T.drop m1 := hm1
    subst hm1'
    clear hm1 hp M1
    have P1H := hid P1
    have B1 := hid b1
    have hs1 := b1.size
    clear P1 b1
    go_wp2_with fail
    go_loopg [3] (T.length + 1) (fun m lv wr => ∃ (k : Nat) (acc : List Int) (rows : List (List Value)), T.length + 1 - k ≤ m ∧ acc.length ≤ 40 ∧ Aside (PB bx en T k wr) ∧ Aside (OutInv 3 1 RI w1.heap.size wr lv acc.length rows acc) ∧ Aside (Beside bx w wr) ∧ Aside (w1.heap.size ≤ wr.heap.size) ∧ Aside (pNums en (T.drop m1) [] = pNums en (T.drop k) acc))
    case atStart => exact ⟨m1, [], [], by omega, by simp, P1H.out, OutInv.nil _ _ _ _ _, B1.out, Nat.le_refl _, rfl⟩
    case round =>
      obtain ⟨k, acc, rows, hm, h40, PK, OI, BW, SW, HN⟩ := hrel
      obtain ⟨la, lc, rfl⟩ := OI.out.sliceV
      have hsw := SW.out
      have L := hid (look_is bx k en T wr PK.out)
      by_cases h2 : (lookT en T k).1 = 2
      · have hn : k < T.length := (drop_look (en := en) (T := T) (n := k) (by rw [h2]; decide)).1
        by_cases h4 : acc.length = 40
        · have h4i : ((acc.length : Int) == 40) = true := by rw [h4]; rfl
          have HE := hid (HN.out.trans (pNums_full h2 h4))
          have G := hid (fun w2 (b : Below wr.heap.size wr w2) => giveUp_is bx k en 4 T w2 (PK.out.keep (b.mono PK.out.lt)))
          generalize lookT en T k = t at L h2
          have tf := tokf0 t.1 t.2.1 t.2.2.1 t.2.2.2
          go_wp2_with fail
          go_at_call 39
          refine L.out.mono ?_
          rintro e w2 ⟨rfl, b2⟩
          have B2 := hid b2
          clear b2
          go_wp2_with fail
          go_at_call 40
          refine (G.out _ B2.out).mono ?_
          rintro e w3 ⟨rfl, b3⟩
          refine ⟨rfl, ?_⟩
          show ToldR bx en T w _ (pTail en (pNums en (T.drop m1) [])) _ _
          rw [HE.out]
          exact ⟨rfl, (BW.out.trans (Beside.of_below B2.out)).trans (Beside.of_below b3)⟩
        · have h4i : ((acc.length : Int) == 40) = false := by rw [beq_eq_false_iff_ne]; omega
          have HE := hid (HN.out.trans (pNums_more h2 h4))
          have N := hid (fun w2 (b : Below wr.heap.size wr w2) => number_is bx k en T w2 (PK.out.keep (b.mono PK.out.lt)))
          rw [pNum_ok h2] at N
          generalize lookT en T k = t at L h2 HE N
          have tf := tokf0 t.1 t.2.1 t.2.2.1 t.2.2.2
          go_wp2_with fail
          go_at_call 39
          refine L.out.mono ?_
          rintro e w2 ⟨rfl, b2⟩
          have B2 := hid b2
          clear b2
          go_wp2_with fail
          go_at_call 86
          refine (N.out _ B2.out).mono ?_
          rintro e w3 ⟨⟨m3, hm3, P3⟩, rfl, b3⟩
          have B3 : Hid (Beside bx wr w3) := (Beside.of_below B2.out).trans b3
          have P3H := hid P3
          have HM := hid hm3
          have hs3 := B3.out.size
          have hbx : bx < w1.heap.size := Nat.lt_of_lt_of_le hlt hs1
          clear P3 b3 hm3
          have O3 := hid (OI.out.beside ri_keep (B3.out.trans (Beside.of_below (below_box w3 (.cells #[.int .i64 t.2.2.2] 3)))) hbx)
          go_wp2_with (at_builtin; refine wpList_append_lies _ rfl _ _ 72 rfl w1.heap.size 3 i0 _ 1 8 Tryz.underlying72 HI.out HZ0.out HZ1.out HZ2.out rfl (by decide) (.slice la acc.length lc) acc.length rows.flatten rfl O3.out.own ⟨w3.heap.size, 0, none⟩ 1 1 [.int .i64 t.2.2.2] rfl rfl (World.news_of_block (cs := #[.int .i64 t.2.2.2]) (t := 3) (fr := (0, 0)) (heap_alloc_new w3 _)) (by simp [Value.oneCell']) (by decide) (by unfold maxLen; omega) (by omega) (by simp; omega) (w3.heap.size + 1) (by simp) ?_; intro g cap w4 hown hgrow hat hglt)
          have B3a : Beside bx wr (w3.alloc (.cells #[.int .i64 t.2.2.2] 3)) := B3.out.trans (Beside.of_below (below_box w3 _))
          have O4 := OI.out.grow ri_keep (row := [.int .i64 t.2.2.2]) (x := t.2.2.2) hsw hbx B3a rfl rfl hown hgrow (by simpa using hat)
          have hgs : w3.heap.size < w4.heap.size := by have := hgrow.size; simp at this; omega
          have B34 : Below w1.heap.size w3 w4 := ((Below.refl _ w3).alloc (by omega) _).grown hgrow (by simp; omega) (fun k hk => (OI.out.own.lt k hk).1)
          have hlen : T.length - (k + 1) = T.length - m3 := by have := congrArg List.length HM.out; simpa using this
          have O5 : OutInv 3 1 RI w1.heap.size w4 (.slice (some ⟨g, 0, none⟩) (acc.length + 1) cap) (acc ++ [t.2.2.2]).length (rows ++ [[.int .i64 t.2.2.2]]) (acc ++ [t.2.2.2]) := by simpa using O4
          go_roundg (T.length + 1 - m3)
          case measure => omega
          case rel => exact ⟨m3, acc ++ [t.2.2.2], rows ++ [[Value.int .i64 t.2.2.2]], by omega, by simp; omega, P3H.out.keep (B34.mono hbx), O5, (BW.out.trans B3.out).later (B34.mono hs1), (by show w1.heap.size ≤ w4.heap.size; omega), HE.out.trans (by rw [HM.out])⟩
      · have HE := hid (HN.out.trans (pNums_end h2))
        have M := hid (fun w2 (b : Below wr.heap.size wr w2) => mark_is bx k en ⟨#[41]⟩ T w2 (PK.out.keep (b.mono PK.out.lt)))
        have hbx : bx < w1.heap.size := Nat.lt_of_lt_of_le hlt hs1
        generalize lookT en T k = t at L h2
        have tf := tokf0 t.1 t.2.1 t.2.2.1 t.2.2.2
        cases hq : pMark en ⟨#[41]⟩ (T.drop k) with
        | error f =>
          rw [hq] at M
          go_wp2_with fail
          go_at_call 39
          refine L.out.mono ?_
          rintro e w2 ⟨rfl, b2⟩
          have B2 := hid b2
          clear b2
          go_wp2_with fail
          go_at_call 84
          refine (M.out _ B2.out).mono ?_
          rintro e w3 ⟨rfl, b3⟩
          refine ⟨rfl, ?_⟩
          show ToldR bx en T w _ (pTail en (pNums en (T.drop m1) [])) _ _
          have hpt : pTail en (pNums en (T.drop m1) []) = .error f := by rw [HE.out]; show andP (pMark en ⟨#[41]⟩ (T.drop k)) (fun _ l3 => .ok (acc, l3)) = _; rw [hq]; rfl
          rw [hpt]
          exact ⟨rfl, (BW.out.trans (Beside.of_below B2.out)).trans b3⟩
        | ok z =>
          obtain ⟨u2, l3⟩ := z
          rw [hq] at M
          have hpt : Hid (pTail en (pNums en (T.drop m1) []) = .ok (acc, l3)) := by show _ = _; rw [HE.out]; show andP (pMark en ⟨#[41]⟩ (T.drop k)) (fun _ l3 => .ok (acc, l3)) = _; rw [hq]; rfl
          clear hq
          go_wp2_with fail
          go_at_call 39
          refine L.out.mono ?_
          rintro e w2 ⟨rfl, b2⟩
          have B2 := hid b2
          clear b2
          go_wp2_with fail
          go_at_call 84
          refine (M.out _ B2.out).mono ?_
          rintro e w3 ⟨⟨m3, hm3, P3⟩, rfl, b3⟩
          have B3 : Hid (Beside bx wr w3) := (Beside.of_below B2.out).trans b3
          have P3H := hid P3
          have HM := hid hm3
          clear P3 b3 hm3
          go_wp2_with fail
          rw [hpt.out]
          go_ret
          refine ⟨⟨m3, HM.out, P3H.out⟩, ⟨_, rfl, ?_⟩, BW.out.trans B3.out⟩
          exact (ints_of_out (OI.out.beside ri_keep B3.out hbx) (by omega)).keep (fun _ _ _ => rfl) (fun b _ hb => Nat.le_trans hs1 hb)
end Go.Proofs.YtegeiojcdjnmjaaGreatDoor
namespace Go.Proofs.YtegeiojcdjnmjaaGreatDoor
set_option linter.unusedVariables false
set_option linter.unusedSimpArgs false
open Go.RowKit

/-- The six cells of an operation in a box. -/
structure OC (o : Nat) (w : World) (k : Int) (s : ByteArray) (x : Int) (lv : Value) (h n : Bool) : Prop where
  c0 : w.cell? ⟨o, 0, none⟩ = some (.int .i64 k)
  c1 : w.cell? ⟨o, 1, none⟩ = some (.string s)
  c2 : w.cell? ⟨o, 2, none⟩ = some (.int .i64 x)
  c3 : w.cell? ⟨o, 3, none⟩ = some lv
  c4 : w.cell? ⟨o, 4, none⟩ = some (.bool h)
  c5 : w.cell? ⟨o, 5, none⟩ = some (.bool n)
  z0 : w.frozen? ⟨o, 0, none⟩ = false
  z1 : w.frozen? ⟨o, 1, none⟩ = false
  z2 : w.frozen? ⟨o, 2, none⟩ = false
  z3 : w.frozen? ⟨o, 3, none⟩ = false
  z4 : w.frozen? ⟨o, 4, none⟩ = false
  z5 : w.frozen? ⟨o, 5, none⟩ = false
section
variable {o : Nat} {w : World} {k : Int} {s : ByteArray} {x : Int} {lv : Value} {h n : Bool}
theorem OC.lt (H : OC o w k s x lv h n) : o < w.heap.size := World.block_lt_of_cell? _ _ H.c0
theorem OC.beside {bx : Nat} {w' : World} (H : OC o w k s x lv h n) (hb : Beside bx w w') (hn : o ≠ bx) : OC o w' k s x lv h n :=
  ⟨(hb.cell (p := ⟨o, 0, none⟩) H.lt hn).trans H.c0, (hb.cell (p := ⟨o, 1, none⟩) H.lt hn).trans H.c1, (hb.cell (p := ⟨o, 2, none⟩) H.lt hn).trans H.c2, (hb.cell (p := ⟨o, 3, none⟩) H.lt hn).trans H.c3, (hb.cell (p := ⟨o, 4, none⟩) H.lt hn).trans H.c4, (hb.cell (p := ⟨o, 5, none⟩) H.lt hn).trans H.c5, (hb.frozen (p := ⟨o, 0, none⟩) H.lt hn).trans H.z0, (hb.frozen (p := ⟨o, 1, none⟩) H.lt hn).trans H.z1, (hb.frozen (p := ⟨o, 2, none⟩) H.lt hn).trans H.z2, (hb.frozen (p := ⟨o, 3, none⟩) H.lt hn).trans H.z3, (hb.frozen (p := ⟨o, 4, none⟩) H.lt hn).trans H.z4, (hb.frozen (p := ⟨o, 5, none⟩) H.lt hn).trans H.z5⟩
theorem OC.set0 (H : OC o w k s x lv h n) (u : Int) : OC o (w.setCell ⟨o, 0, none⟩ (.int .i64 u)) u s x lv h n :=
  ⟨World.cell?_setCell_same _ _ _ H.c0, (World.cell?_setCell_other _ _ _ _ (by simp)).trans H.c1, (World.cell?_setCell_other _ _ _ _ (by simp)).trans H.c2, (World.cell?_setCell_other _ _ _ _ (by simp)).trans H.c3, (World.cell?_setCell_other _ _ _ _ (by simp)).trans H.c4, (World.cell?_setCell_other _ _ _ _ (by simp)).trans H.c5, (World.frozen?_setCell _ _ _ _).trans H.z0, (World.frozen?_setCell _ _ _ _).trans H.z1, (World.frozen?_setCell _ _ _ _).trans H.z2, (World.frozen?_setCell _ _ _ _).trans H.z3, (World.frozen?_setCell _ _ _ _).trans H.z4, (World.frozen?_setCell _ _ _ _).trans H.z5⟩
theorem OC.set1 (H : OC o w k s x lv h n) (u : ByteArray) : OC o (w.setCell ⟨o, 1, none⟩ (.string u)) k u x lv h n :=
  ⟨(World.cell?_setCell_other _ _ _ _ (by simp)).trans H.c0, World.cell?_setCell_same _ _ _ H.c1, (World.cell?_setCell_other _ _ _ _ (by simp)).trans H.c2, (World.cell?_setCell_other _ _ _ _ (by simp)).trans H.c3, (World.cell?_setCell_other _ _ _ _ (by simp)).trans H.c4, (World.cell?_setCell_other _ _ _ _ (by simp)).trans H.c5, (World.frozen?_setCell _ _ _ _).trans H.z0, (World.frozen?_setCell _ _ _ _).trans H.z1, (World.frozen?_setCell _ _ _ _).trans H.z2, (World.frozen?_setCell _ _ _ _).trans H.z3, (World.frozen?_setCell _ _ _ _).trans H.z4, (World.frozen?_setCell _ _ _ _).trans H.z5⟩
theorem OC.set2 (H : OC o w k s x lv h n) (u : Int) : OC o (w.setCell ⟨o, 2, none⟩ (.int .i64 u)) k s u lv h n :=
  ⟨(World.cell?_setCell_other _ _ _ _ (by simp)).trans H.c0, (World.cell?_setCell_other _ _ _ _ (by simp)).trans H.c1, World.cell?_setCell_same _ _ _ H.c2, (World.cell?_setCell_other _ _ _ _ (by simp)).trans H.c3, (World.cell?_setCell_other _ _ _ _ (by simp)).trans H.c4, (World.cell?_setCell_other _ _ _ _ (by simp)).trans H.c5, (World.frozen?_setCell _ _ _ _).trans H.z0, (World.frozen?_setCell _ _ _ _).trans H.z1, (World.frozen?_setCell _ _ _ _).trans H.z2, (World.frozen?_setCell _ _ _ _).trans H.z3, (World.frozen?_setCell _ _ _ _).trans H.z4, (World.frozen?_setCell _ _ _ _).trans H.z5⟩
theorem OC.set3 (H : OC o w k s x lv h n) (u : Value) : OC o (w.setCell ⟨o, 3, none⟩ u) k s x u h n :=
  ⟨(World.cell?_setCell_other _ _ _ _ (by simp)).trans H.c0, (World.cell?_setCell_other _ _ _ _ (by simp)).trans H.c1, (World.cell?_setCell_other _ _ _ _ (by simp)).trans H.c2, World.cell?_setCell_same _ _ _ H.c3, (World.cell?_setCell_other _ _ _ _ (by simp)).trans H.c4, (World.cell?_setCell_other _ _ _ _ (by simp)).trans H.c5, (World.frozen?_setCell _ _ _ _).trans H.z0, (World.frozen?_setCell _ _ _ _).trans H.z1, (World.frozen?_setCell _ _ _ _).trans H.z2, (World.frozen?_setCell _ _ _ _).trans H.z3, (World.frozen?_setCell _ _ _ _).trans H.z4, (World.frozen?_setCell _ _ _ _).trans H.z5⟩
theorem OC.set4 (H : OC o w k s x lv h n) (u : Bool) : OC o (w.setCell ⟨o, 4, none⟩ (.bool u)) k s x lv u n :=
  ⟨(World.cell?_setCell_other _ _ _ _ (by simp)).trans H.c0, (World.cell?_setCell_other _ _ _ _ (by simp)).trans H.c1, (World.cell?_setCell_other _ _ _ _ (by simp)).trans H.c2, (World.cell?_setCell_other _ _ _ _ (by simp)).trans H.c3, World.cell?_setCell_same _ _ _ H.c4, (World.cell?_setCell_other _ _ _ _ (by simp)).trans H.c5, (World.frozen?_setCell _ _ _ _).trans H.z0, (World.frozen?_setCell _ _ _ _).trans H.z1, (World.frozen?_setCell _ _ _ _).trans H.z2, (World.frozen?_setCell _ _ _ _).trans H.z3, (World.frozen?_setCell _ _ _ _).trans H.z4, (World.frozen?_setCell _ _ _ _).trans H.z5⟩
theorem OC.set5 (H : OC o w k s x lv h n) (u : Bool) : OC o (w.setCell ⟨o, 5, none⟩ (.bool u)) k s x lv h u :=
  ⟨(World.cell?_setCell_other _ _ _ _ (by simp)).trans H.c0, (World.cell?_setCell_other _ _ _ _ (by simp)).trans H.c1, (World.cell?_setCell_other _ _ _ _ (by simp)).trans H.c2, (World.cell?_setCell_other _ _ _ _ (by simp)).trans H.c3, (World.cell?_setCell_other _ _ _ _ (by simp)).trans H.c4, World.cell?_setCell_same _ _ _ H.c5, (World.frozen?_setCell _ _ _ _).trans H.z0, (World.frozen?_setCell _ _ _ _).trans H.z1, (World.frozen?_setCell _ _ _ _).trans H.z2, (World.frozen?_setCell _ _ _ _).trans H.z3, (World.frozen?_setCell _ _ _ _).trans H.z4, (World.frozen?_setCell _ _ _ _).trans H.z5⟩
end
theorem oc_new (w : World) (k : Int) (s : ByteArray) (x : Int) (lv : Value) (h n : Bool) : OC w.heap.size (w.alloc (.cells #[.int .i64 k, .string s, .int .i64 x, lv, .bool h, .bool n] 74)) k s x lv h n :=
  ⟨new_cells w _ 74 0, new_cells w _ 74 1, new_cells w _ 74 2, new_cells w _ 74 3, new_cells w _ 74 4, new_cells w _ 74 5, Lib.frozen_of_heap (heap_alloc_new w _) 0, Lib.frozen_of_heap (heap_alloc_new w _) 1, Lib.frozen_of_heap (heap_alloc_new w _) 2, Lib.frozen_of_heap (heap_alloc_new w _) 3, Lib.frozen_of_heap (heap_alloc_new w _) 4, Lib.frozen_of_heap (heap_alloc_new w _) 5⟩

theorem OC.other {o g i : Nat} {w : World} {k : Int} {s : ByteArray} {x : Int} {lv : Value} {h n : Bool} (H : OC o w k s x lv h n) (hg : o ≠ g) (u : Value) : OC o (w.setCell ⟨g, i, none⟩ u) k s x lv h n :=
  H.beside ((Beside.refl g w).setCell (p := ⟨g, i, none⟩) rfl u) hg
theorem ints_none (S : Nat → Prop) (w : World) : IntsIn S w (.slice none 0 0) [] := ⟨none, 0, rfl, by simp, fun h => by simp at h⟩
theorem PB.set {bx n g i : Nat} {en : Int} {T : List MTok} {w : World} (h : PB bx en T n w) (hg : bx < g) (u : Value) : PB bx en T n (w.setCell ⟨g, i, none⟩ u) :=
  h.keep ((Below.refl _ _).setCell (p := ⟨g, i, none⟩) hg _)
theorem PB.put6 {bx n g : Nat} {en : Int} {T : List MTok} {w : World} (h : PB bx en T n w) (hg : bx < g) (a0 a1 a2 a3 a4 a5 : Value) : PB bx en T n ((((((w.setCell ⟨g, 0, none⟩ a0).setCell ⟨g, 1, none⟩ a1).setCell ⟨g, 2, none⟩ a2).setCell ⟨g, 3, none⟩ a3).setCell ⟨g, 4, none⟩ a4).setCell ⟨g, 5, none⟩ a5) :=
  (((((h.set hg _).set hg _).set hg _).set hg _).set hg _).set hg _
theorem be_put6 {bx g : Nat} {w w' : World} (h : Beside bx w w') (hg : w.heap.size ≤ g) (a0 a1 a2 a3 a4 a5 : Value) : Beside bx w ((((((w'.setCell ⟨g, 0, none⟩ a0).setCell ⟨g, 1, none⟩ a1).setCell ⟨g, 2, none⟩ a2).setCell ⟨g, 3, none⟩ a3).setCell ⟨g, 4, none⟩ a4).setCell ⟨g, 5, none⟩ a5) :=
  (((((h.setNew (p := ⟨g, 0, none⟩) hg _).setNew (p := ⟨g, 1, none⟩) hg _).setNew (p := ⟨g, 2, none⟩) hg _).setNew (p := ⟨g, 3, none⟩) hg _).setNew (p := ⟨g, 4, none⟩) hg _).setNew (p := ⟨g, 5, none⟩) hg _
theorem be_self6 (g : Nat) (w : World) (a0 a1 a2 a3 a4 a5 : Value) : Beside g w ((((((w.setCell ⟨g, 0, none⟩ a0).setCell ⟨g, 1, none⟩ a1).setCell ⟨g, 2, none⟩ a2).setCell ⟨g, 3, none⟩ a3).setCell ⟨g, 4, none⟩ a4).setCell ⟨g, 5, none⟩ a5) :=
  ((((((Beside.refl g w).setCell (p := ⟨g, 0, none⟩) rfl _).setCell (p := ⟨g, 1, none⟩) rfl _).setCell (p := ⟨g, 2, none⟩) rfl _).setCell (p := ⟨g, 3, none⟩) rfl _).setCell (p := ⟨g, 4, none⟩) rfl _).setCell (p := ⟨g, 5, none⟩) rfl _
theorem IntsIn.past {B bx : Nat} {w w' : World} {v : Value} {l : List Int} (h : IntsIn (fun b => B ≤ b) w v l) (hb : Beside bx w w') (hB : bx < B) : IntsIn (fun b => B ≤ b) w' v l :=
  h.keep (hb.keepsIn hB _ (fun _ h => h)) (fun _ _ h => h)
/-- An operation as a value. -/
def OpV (S : Nat → Prop) (w : World) (v : Value) (o : MOp) : Prop :=
  ∃ lv, v = .agg #[.int .i64 o.kind, .string o.key, .int .i64 o.value, lv, .bool o.has, .bool o.nl] ∧ IntsIn S w lv o.list

def pOpD (en : Int) (o : MOp) (l : List MTok) : Ps MOp := andP (pMark en ⟨#[93]⟩ l) fun _ l5 => .ok (o, l5)
def pOpC (en k : Int) (s : ByteArray) (l : List MTok) : Ps MOp := andP (pMid en k s l) fun o l4 => pOpD en o l4
def pOpB (en k : Int) (l : List MTok) : Ps MOp := andP (pKey en l) fun s l3 => pOpC en k s l3
def pOpA (en : Int) (l : List MTok) : Ps MOp := andP (pKind en l 0 pOpWords) fun k l2 => pOpB en k l2
theorem pOp_A (en : Int) (l : List MTok) : pOp en l = andP (pMark en ⟨#[91]⟩ l) fun _ l1 => pOpA en l1 := rfl
theorem and_err {α β : Type} {p : Ps α} {f : α → List MTok → Ps β} {e : Int × Int} (h : p = .error e) : andP p f = .error e := by rw [h]; rfl
theorem and_ok {α β : Type} {p : Ps α} {f : α → List MTok → Ps β} {a : α} {l : List MTok} (h : p = .ok (a, l)) : andP p f = f a l := by rw [h]; rfl
theorem pKind_among {en : Int} {l : List MTok} {z : Int × List MTok} : ∀ (ws : List ByteArray) (i : Nat), pKind en l i ws = .ok z → ∃ j : Nat, i ≤ j ∧ j < i + ws.length ∧ z.1 = (j : Int)
  | [], i, h => by cases h
  | x :: xs, i, h => by
    unfold pKind at h
    cases hs : seesP l 1 x with
    | true =>
      rw [hs] at h
      cases h
      exact ⟨i, Nat.le_refl _, by simp, rfl⟩
    | false =>
      rw [hs] at h
      obtain ⟨j, h1, h2, h3⟩ := pKind_among xs (i + 1) h
      exact ⟨j, by omega, by simp only [List.length_cons]; omega, h3⟩
theorem pKind_five {en : Int} {l l2 : List MTok} {k : Int} (h : pKind en l 0 pOpWords = .ok (k, l2)) : k = 0 ∨ k = 1 ∨ k = 2 ∨ k = 3 ∨ k = 4 := by
  obtain ⟨j, _, h2, h3⟩ := pKind_among _ _ h
  have h2' : j < 5 := h2
  have h3' : k = (j : Int) := h3
  omega
theorem pMid_0 {en : Int} {s : ByteArray} {l : List MTok} : pMid en 0 s l = .ok ((0, s, 0, [], false, false), l) := rfl
theorem pMid_1 {en : Int} {s : ByteArray} {l : List MTok} : pMid en 1 s l = andP (pNum en l) fun x l1 => .ok ((1, s, x, [], false, false), l1) := rfl
theorem pMid_3 {en : Int} {s : ByteArray} {l : List MTok} : pMid en 3 s l = andP (pNum en l) fun x l1 => .ok ((3, s, x, [], false, false), l1) := rfl
theorem pMid_2no {en : Int} {s : ByteArray} {l : List MTok} (h : seesP l 3 ⟨#[40]⟩ = false) : pMid en 2 s l = .ok ((2, s, 0, [], false, false), l) := by
  show (if seesP l 3 ⟨#[40]⟩ then _ else _) = _
  rw [h]; rfl
theorem pMid_2yes {en : Int} {s : ByteArray} {l : List MTok} (h : seesP l 3 ⟨#[40]⟩ = true) : pMid en 2 s l = andP (pList en l) fun xs l1 => .ok ((2, s, 0, xs, true, false), l1) := by
  show (if seesP l 3 ⟨#[40]⟩ then _ else _) = _
  rw [h]; rfl
theorem pMid_4nil {en : Int} {s : ByteArray} {l : List MTok} (h : seesP l 1 ⟨#[110, 105, 108]⟩ = true) : pMid en 4 s l = .ok ((4, s, 0, [], true, true), l.tail) := by
  show (if seesP l 1 ⟨#[110, 105, 108]⟩ then _ else _) = _
  rw [h]; rfl
theorem pMid_4num {en : Int} {s : ByteArray} {T : List MTok} {m : Nat} (h : seesP (T.drop m) 1 ⟨#[110, 105, 108]⟩ = false) (h2 : (lookT en T m).1 = 2) : pMid en 4 s (T.drop m) = .ok ((4, s, (lookT en T m).2.2.2, [], true, false), T.drop (m + 1)) := by
  show (if seesP (T.drop m) 1 ⟨#[110, 105, 108]⟩ then _ else _) = _
  rw [h]
  obtain ⟨hn, hd⟩ := drop_look (en := en) (T := T) (n := m) (by rw [h2]; decide)
  rw [hd]
  exact if_pos h2
theorem pMid_4no {en : Int} {s : ByteArray} {T : List MTok} {m : Nat} (h : seesP (T.drop m) 1 ⟨#[110, 105, 108]⟩ = false) (h2 : ¬ (lookT en T m).1 = 2) : pMid en 4 s (T.drop m) = .ok ((4, s, 0, [], false, false), T.drop m) := by
  show (if seesP (T.drop m) 1 ⟨#[110, 105, 108]⟩ then _ else _) = _
  rw [h]
  by_cases hn : m < T.length
  · have hd : T.drop m = lookT en T m :: T.drop (m + 1) := by
      rw [look_in hn, List.drop_eq_getElem_cons hn]; simp [List.getD, hn]
    rw [hd]
    exact if_neg h2
  · rw [List.drop_eq_nil_of_le (by omega)]; rfl
end Go.Proofs.YtegeiojcdjnmjaaGreatDoor
