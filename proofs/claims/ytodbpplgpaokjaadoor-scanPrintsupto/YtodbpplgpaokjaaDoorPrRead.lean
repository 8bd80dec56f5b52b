/-
  From a reading of tokens as data to the tokens in memory; what its bulk says of the printed text; the law's own walk.
-/
import Derived.Test.YtodbpplgpaokjaaDoorPrint2
import Derived.Deep.Slices
import Derived.OpenShut
import Derived.SizedLaws
namespace Go.Proofs.YtodbpplgpaokjaaDoor
set_option linter.unusedVariables false
set_option linter.unusedSimpArgs false
open Go.RowKit Go.ChangeShapes Go.WideShapes

theorem Tryd.cells3 : Tryd.prog.cellsOf 3 = 1 := by kernel_rfl
theorem Tryd.cells9 : Tryd.prog.cellsOf 9 = 1 := by kernel_rfl
theorem Tryd.cells33 : Tryd.prog.cellsOf 33 = 4 := by kernel_rfl
theorem Tryd.bytes33 : Tryd.prog.bytesOf 33 = 40 := by kernel_rfl

/-- A token as data. -/
def tokD {H : Type} (t : MTok) : DataW H := .agg [.lit (.int .i64 t.1), .lit (.int .i64 t.2.1), .lit (.string t.2.2.1.data.toList), .lit (.int .i64 t.2.2.2)]
/-- Its numbers are ints. -/
def tokW (t : MTok) : Prop := -9223372036854775808 ≤ t.2.2.2 ∧ t.2.2.2 ≤ 9223372036854775807

theorem wf_range {n : Int} (h : (Lit.int .i64 n).wf = true) : -9223372036854775808 ≤ n ∧ n ≤ 9223372036854775807 := by
  simp only [Lit.wf, Bool.and_eq_true, decide_eq_true_eq] at h
  exact h

section
variable {H : Type} {enc : TypeId × Value → H} {w : World} {base : Nat} {spare : Nat → Bool} {held : Bool}

set_option maxRecDepth 10000 in
theorem tok_of_trod (n : Nat) (cs : List Value) (y : DataW H × List MemPlace) (hlen : cs.length = 4) (h : DataW.trod enc Tryd.prog w base spare held n 33 cs = some y) :
    ∃ t : MTok, cs = tcells t ∧ y.1 = tokD t ∧ tokW t := by
  obtain ⟨xs, m, rfl, rfl, _, hxl, hf⟩ := DataW.trod_struct Tryd.underlying33 h
  match cs, hlen with
  | [c0, c1, c2, c3], _ =>
    match xs, hxl with
    | [x0, x1, x2, x3], _ =>
      have f0 := hf 0 _ rfl
      have f1 := hf 1 _ rfl
      have f2 := hf 2 _ rfl
      have f3 := hf 3 _ rfl
      simp [Tryd.cells3, Tryd.cells9] at f0 f1 f2 f3
      obtain ⟨k, e0, g0, _⟩ := DataW.trod_int Tryd.underlying3 f0
      obtain ⟨p, e1, g1, _⟩ := DataW.trod_int Tryd.underlying3 f1
      obtain ⟨s, e2, g2, _⟩ := DataW.trod_string Tryd.underlying9 f2
      obtain ⟨v, e3, g3, wv⟩ := DataW.trod_int Tryd.underlying3 f3
      simp at e0 e1 e2 e3
      subst e0 e1 e2 e3
      refine ⟨(k, p, s, v), rfl, ?_, wf_range wv⟩
      subst g0 g1 g2 g3
      rfl

/-- A list of tokens. -/
theorem toks_of_trod {fuel : Nat} {cs : List Value} {x : DataW H × List MemPlace} (h : DataW.trod enc Tryd.prog w base spare held fuel 22 cs = some x) (hw : ∀ n ∈ x.1.weights Tryd.prog 22, n ≤ reachBytes) :
    ∃ v l, cs = [v] ∧ ToksIn Any w v l ∧ (∀ t ∈ l, tokW t) ∧ Rows.uptoBulkAll (l.map (tokD (H := H))) ≤ Rows.uptoBulk x.1 := by
  rcases Deep.open_slice Tryd.underlying22 h with ⟨rfl, rfl⟩ | ⟨a, len, cap, m, n, D, Pl, rfl, hb, hl, hm, hmm, rfl, hx⟩
  · exact ⟨_, [], rfl, ⟨none, 0, rfl, by simp, fun h => by simp at h⟩, fun t ht => (List.not_mem_nil ht).elim, by simp [Rows.uptoBulkAll, Rows.uptoBulk]⟩
  · have hlm : len ≤ m := by rw [hmm]; split <;> omega
    rw [Tryd.cells33] at hx
    have key : ∀ i, i < len → ∃ t : MTok, D i = tokD t ∧ tokW t ∧ ∀ j, j < 4 → w.cell? (a.add (i * 4 + j)) = (tcells t)[j]? := fun i hi => by
      obtain ⟨cs', h1, h2⟩ := hx i (by omega)
      obtain ⟨_, hlen, hc⟩ := World.cells?_some h1
      obtain ⟨t, e1, e2, e3⟩ := tok_of_trod n cs' _ hlen h2
      subst e1
      exact ⟨t, e2, e3, fun j hj => by rw [← Deep.add_add]; exact hc j hj⟩
    obtain ⟨f, hf⟩ := Deep.choose_lt (α := MTok) key
    refine ⟨_, (List.range len).map f, rfl, ⟨some a, cap, by simp, ?_, fun h0 => ?_⟩, ?_, ?_⟩
    · have := hw ((len + (m - len)) * Tryd.prog.bytesOf 33) (by simp [DataW.weights, Tryd.underlying22])
      rw [Tryd.bytes33] at this
      simp only [List.length_map, List.length_range]
      have h3 : reachBytes ≤ 140737488355328 := by decide
      omega
    · simp only [List.length_map, List.length_range] at h0
      obtain ⟨b, off, spot⟩ := a
      have hspot : spot = none := by
        obtain ⟨_, _, h3⟩ := hf 0 h0
        have := h3 0 (by omega)
        simp only [tcells, List.getElem?_cons_zero] at this
        simpa [Addr.add] using World.cell?_spot this
      subst hspot
      refine ⟨b, off, rfl, trivial, fun j hj => ?_⟩
      simp only [List.length_map, List.length_range] at hj
      obtain ⟨_, _, h3⟩ := hf j hj
      have hgd : ((List.range len).map f).getD j default = f j := by simp [List.getD, hj]
      rw [hgd]
      refine ⟨tcells (f j), rfl, rfl, fun i u hi => ?_⟩
      have hik : i < 4 := (List.getElem?_eq_some_iff.1 hi).1
      have := h3 i hik
      rw [Addr.add_lit, hi] at this
      simpa [Nat.add_assoc] using this
    · intro t ht
      obtain ⟨i, hi, rfl⟩ := List.mem_map.1 ht
      exact (hf i (List.mem_range.1 hi)).2.1
    · have e : ((List.range len).map f).map (tokD (H := H)) = (List.range len).map D := by
        rw [List.map_map]
        apply List.map_congr_left
        intro i hi
        exact (hf i (List.mem_range.1 hi)).1.symm
      rw [e]
      simp only [Rows.uptoBulk]
      omega
end

/-- A printed text is not much longer than its tokens' bulk. -/
theorem print_bulk {H : Type} : ∀ (l : List MTok) (il : Bool), (∀ t ∈ l, tokW t) → (printL il l).length ≤ 21 * Rows.uptoBulkAll (l.map (tokD (H := H)))
  | [], _, _ => by simp [printL]
  | t :: l, il, h => by
    have hw := h t (by simp)
    have hl : ∀ x ∈ l, tokW x := fun x hx => h x (by simp [hx])
    have i1 := print_bulk (H := H) l true hl
    have i2 := print_bulk (H := H) l false hl
    have i3 := print_bulk (H := H) l il hl
    have hs : (sep il).length ≤ 1 := by cases il <;> decide
    have hd : (decimal t.2.2.2).length ≤ 21 := by
      unfold tokW at hw
      unfold decimal
      split
      · have := (dec_len (v := t.2.2.2.toNat) (by omega)).2; omega
      · have := (dec_len (v := (-t.2.2.2).toNat) (by omega)).2; simp; omega
    have hb : Rows.uptoBulk (tokD (H := H) t) = (tx t).length + 5 := by
      simp [tokD, Rows.uptoBulk, Rows.uptoBulkAll]
      omega
    simp only [List.map_cons, Rows.uptoBulkAll]
    rw [hb, printL]
    split
    · rw [List.length_append, List.length_append]; omega
    · split
      · rw [List.length_append, List.length_append]; omega
      · split
        · rw [List.length_cons]; omega
        · omega

set_option maxHeartbeats 2000000 in
set_option maxRecDepth 100000 in
theorem prints_walk {S : Nat → Prop} (v : Value) (l : List MTok) (w : World) (h : ToksIn S w v l) (htab : Pow10 w) (hN : NumsOk l) (hP : (printL false l).length ≤ 140737488355328) :
    Calls Tryd.prog 4 #[v] w fun e w' => e = .returned (.bool true) ∧ Below w.heap.size w w' := by
  have H := hid h
  have HT : Hid (Lib.TabBelow Tryd.prog w.heap.size w "internal/strconv.uint64pow10" .u64 Lib.pow10Tab) := Lib.tabBelow_of_tabIs htab
  have HN := hid hN
  have HP := hid hP
  have hbig : l.length * 40 ≤ 140737488355328 := by obtain ⟨_, _, _, hl, _⟩ := h; exact hl
  obtain ⟨va, vc, rfl, -⟩ := id h
  clear h htab hN hP
  go_enter Tryd.func4, Tryd.ntmps4
  go_wp2_with fail
  refine (cloneToks_any _ l w H.out).mono ?_
  rintro e w1 ⟨v1, rfl, hown, b1⟩
  have B1 := hid b1
  have T1 := hid (own_toks hown hbig)
  have T0 := hid (H.out.later (T := Any) b1 (fun _ _ _ => trivial))
  obtain ⟨a1, c1, rfl, -⟩ := own_slice hown
  clear hown b1
  go_wp2_with fail
  refine (print_any _ l _ T1.out (HT.out _ B1.out) HN.out HP.out).mono ?_
  rintro e w2 ⟨rfl, b2⟩
  have B2 : Hid (Below w.heap.size w w2) := B1.out.trans (b2.mono B1.out.size)
  have T12 := hid (T1.out.later (T := Any) b2 (fun _ _ _ => trivial))
  have T02 := hid (T0.out.later (T := Any) b2 (fun _ _ _ => trivial))
  clear b2
  go_wp2_with fail
  refine (refPrint_any _ l _ T02.out HN.out HP.out).mono ?_
  rintro e w3 ⟨rfl, b3⟩
  have B3 : Hid (Below w.heap.size w w3) := B2.out.trans (b3.mono B2.out.size)
  have T13 := hid (T12.out.later (T := Any) b3 (fun _ _ _ => trivial))
  have T03 := hid (T02.out.later (T := Any) b3 (fun _ _ _ => trivial))
  clear b3
  generalize (⟨(printL false l).toArray⟩ : ByteArray) = p
  have hpp : (p.toList == p.toList) = true := by simp
  go_wp2_with fail
  refine (equalToks_any _ _ l l _ T13.out T03.out).mono ?_
  rintro e w4 ⟨rfl, b4⟩
  rw [toksEq_refl]
  have B4 : Hid (Below w.heap.size w w4) := B3.out.trans (b4.mono B3.out.size)
  clear b4
  go_wp2_with fail
  go_ret
  exact ⟨rfl, B4.out⟩
end Go.Proofs.YtodbpplgpaokjaaDoor
