/-
  The sort of starts: a call of slices.SortStableFunc with the comparison of beginnings.
-/
import Derived.Test.YtbcegdiabnapkaaQ1
namespace Go.Proofs.Ytbcegdiabnapkaa
set_option linter.unusedVariables false
set_option linter.unusedSimpArgs false
open Go.RowKit Go.Lib

theorem SWK_below {α : Type} [Inhabited α] {enc : α → List Value} {k : Nat} {w0 W : World} {blk off B : Nat} {dk : Array α} (h : SWK enc k w0 blk off dk W) (hB : B ≤ blk) (hs : B ≤ w0.heap.size) : RowKit.Below B w0 W := by
  obtain ⟨n, os, rfl⟩ := h
  refine ⟨rfl, rfl, rfl, ?_, fun i hi => ?_⟩
  · simp [sortWorldK, Sort.grow, Sort.putRowK, Sort.putRow, Sort.mapBlock, Sort.ahead]
  · show ((Sort.putRow id (Sort.ahead w0 n) blk off (Sort.flatK enc k dk)).heap ++ os)[i]? = _
    rw [Array.getElem?_append_left (by simp [Sort.putRow, Sort.mapBlock, Sort.ahead]; omega)]
    show ((w0.heap).modify blk _)[i]? = _
    rw [Array.getElem?_modify, if_neg (by omega)]

/-- A start by its cells: a transaction's number, and another one. -/
def encF {N : Nat} (x : Fin (N + 1) × Int) : List Value := [.int .i64 (x.1.val : Int), .int .i64 x.2]
theorem encF_len {N : Nat} (x : Fin (N + 1) × Int) : (encF x).length = 2 := rfl
theorem encF_one {N : Nat} (x : Fin (N + 1) × Int) : ∀ v ∈ encF x, v.oneCell' = true := fun v hv => by
  simp only [encF, List.mem_cons, List.not_mem_nil, or_false] at hv
  rcases hv with rfl | rfl <;> rfl
/-- Starts in a block of one's own. -/
def OwnS (w : World) (g q : Nat) (h : Nat → Int × Int) : Prop := (∀ o, o < q * 2 → w.frozen? ⟨g, o, none⟩ = false) ∧ ∀ i, i < q → w.cell? ⟨g, i * 2, none⟩ = some (.int .i64 (h i).1) ∧ w.cell? ⟨g, i * 2 + 1, none⟩ = some (.int .i64 (h i).2)
def rowsS (ks : List Nat) : List (List Value) := ks.map (fun k : Nat => [Value.int .i64 (k : Int), Value.int .i64 0])
theorem rowsS_size (ks : List Nat) : ∀ r ∈ rowsS ks, r.length = 2 := fun r hr => by
  obtain ⟨j, _, rfl⟩ := List.mem_map.1 hr
  rfl
theorem rowsS_len (ks : List Nat) : (rowsS ks).length = ks.length := by simp [rowsS]

def cfS {N : Nat} (f : Nat → LT) (x y : Fin (N + 1) × Int) : Int := cmpI (f x.1.val).since (f y.1.val).since
theorem cfS_lt {N : Nat} (f : Nat → LT) (x y : Fin (N + 1) × Int) : ltOf (cfS f) x y = decide ((f x.1.val).since < (f y.1.val).since) := by
  unfold ltOf cfS
  simp only [cmpI_neg]
theorem cfS_swo {N : Nat} (f : Nat → LT) : Sort.SWO (ltOf (cfS (N := N) f)) := by
  refine ⟨fun x => ?_, fun x y z h1 h2 => ?_, fun x y z h1 h2 => ?_⟩ <;> simp only [cfS_lt, decide_eq_true_eq, decide_eq_false_iff_not] at * <;> omega

/-- What the sort leaves. -/
def StPost (wB w' : World) (g q : Nat) (f : Nat → LT) (ks : List Nat) : Prop := ∃ t : Nat → Nat, ((List.range q).map t).Perm ks ∧ (∀ i j, i < j → j < q → (f (t i)).since ≤ (f (t j)).since) ∧ OwnS w' g q (fun i => ((t i : Int), 0)) ∧ g < w'.heap.size ∧ RowKit.Below wB.heap.size wB w'

theorem sort_call (N : Nat) (f : Nat → LT) (wB w : World) (pb c q cap g : Nat) (ao : Option Addr) (ks : List Nat) (hks : ks.length = q) (hlt : ∀ k ∈ ks, k < N + 1) (hB : RowKit.Below wB.heap.size wB w) (hpb : pb < wB.heap.size) (hbx : wB.cell? ⟨pb, 0, none⟩ = some (.slice ao (N + 1) c)) (hl : Lt wB ao (N + 1) f)
    (hown : w.ownsRow wB.heap.size 50 2 (.slice (some ⟨g, 0, none⟩) q cap) q (rowsS ks).flatten) (hq : q ≤ 40) :
    Calls Try.prog 38 #[.slice (some ⟨g, 0, none⟩) q cap, .func (.func 39) #[] #[.pointer (some ⟨pb, 0, none⟩)]] w fun e w' => e = .returned (.tuple #[]) ∧ StPost wB w' g q f ks := by
  obtain ⟨es, hes⟩ : ∃ es : Array (Fin (N + 1) × Int), es = (ks.map (fun k => ((Fin.ofNat (N + 1) k, 0) : Fin (N + 1) × Int))).toArray := ⟨_, rfl⟩
  have hsz : es.size = q := by rw [hes]; simp [hks]
  have hat : ∀ i, i < q → es[i]! = ((Fin.ofNat (N + 1) (ks.getD i 0), 0) : Fin (N + 1) × Int) := fun i hi => by
    rw [getElem!_pos es i (by omega)]
    subst hes
    simp [List.getD, show i < ks.length by omega]
  have hgB : wB.heap.size ≤ g ∧ g < w.heap.size := hown.lt g rfl
  have hcell : ∀ i, i < q → ∀ c2, c2 < 2 → w.cell? ⟨g, i * 2 + c2, none⟩ = (encF es[i]!)[c2]? := fun i hi c2 hc2 => by
    have hmod : (ks.getD i 0) % (N + 1) = ks.getD i 0 := Nat.mod_eq_of_lt (hlt _ (by simp [List.getD, show i < ks.length by omega]))
    have e1 : (rowsS ks).flatten[i * 2 + c2]? = (encF es[i]!)[c2]? := by
      rw [flatten_get 2 _ i c2 (rowsS_size ks) (by rw [rowsS_len]; omega) hc2, hat i hi]
      have e2 : (rowsS ks).getD i [] = [Value.int .i64 ((ks.getD i 0 : Nat) : Int), Value.int .i64 0] := by simp [rowsS, List.getD, show i < ks.length by omega]
      rw [e2]
      show _ = ([Value.int .i64 (((ks.getD i 0) % (N + 1) : Nat) : Int), Value.int .i64 0] : List Value)[c2]?
      rw [hmod]
    obtain ⟨u, hu⟩ : ∃ u, (encF es[i]!)[c2]? = some u := ⟨_, List.getElem?_eq_getElem (by rw [encF_len]; exact hc2)⟩
    have := hown.cells (g := g) rfl (i * 2 + c2) u (e1.trans hu)
    rw [Addr.add_lit, Nat.zero_add] at this
    rw [this, hu]
  have hfz : ∀ o, w.frozen? ⟨g, o, none⟩ = false := fun o => by
    rcases hown.2 with ⟨hv, _⟩ | ⟨g', cap', cur, hv, _, hh, _⟩
    · cases hv
    · simp only [Value.slice.injEq, Option.some.injEq, Addr.mk.injEq, and_true] at hv
      obtain ⟨rfl, -⟩ := hv
      unfold World.frozen?
      simp only [hh]
      simp
  have hH : Sort.HoldsK encF 2 w g 0 es := fun j hj => by
    rw [Sort.size_flatK, hsz] at hj
    refine ⟨?_, hfz _⟩
    rw [Sort.get_flatK _ _ _ _ (by rw [hsz]; exact hj), Nat.zero_add]
    have := hcell (j / 2) (by omega) (j % 2) (by omega)
    rw [show j / 2 * 2 + j % 2 = j by omega] at this
    rw [this]
    have hlen : (encF es[j / 2]!).length = 2 := rfl
    generalize encF es[j / 2]! = l at hlen ⊢
    rw [List.getElem?_eq_getElem (by omega), getElem!_pos l (j % 2) (by omega)]
    rfl
  have R : RowK encF 2 w g 0 es := ⟨encF_len, encF_one, hH, hgB.2⟩
  have hcmp : CmpLays Try.prog 39 #[.pointer (some ⟨pb, 0, none⟩)] encF 2 (cfS f) g 0 es.size w := fun m os dk hdk x y => by
    have hb : RowKit.Below wB.heap.size wB (sortWorldK encF 2 w g 0 m dk os) := hB.trans (SWK_below ⟨m, os, rfl⟩ hgB.1 hB.size)
    have := byStart_is pb c (N + 1) ao f x.1.val y.1.val x.2 y.2 (sortWorldK encF 2 w g 0 m dk os) x.1.isLt y.1.isLt (Nat.lt_of_lt_of_le hpb hb.size) ((hb.cell (p := ⟨pb, 0, none⟩) hpb).trans hbx) (hl.later hb)
    exact this
  have key := sortStable_is encF (cfS f) (cfS_swo f) 39 #[.pointer (some ⟨pb, 0, none⟩)] g 0 cap es w (enters_of Try.func39 (by kernel_rfl) rfl) hcmp R (by omega)
  rw [hsz] at key
  refine key.mono fun e w' ⟨he, d', hS, hz, hp, hs⟩ => ⟨he, fun i => (d'[i]!).1.val, ?_, fun i j h1 h2 => ?_, ?_, hS.lt hgB.2, hB.trans (SWK_below hS hgB.1 hB.size)⟩
  · have h3 := hp.2.2
    rw [show es.size = d'.size from hz.symm] at h3
    simp only [Array.extract_size] at h3
    rw [hz, Array.extract_size] at h3
    have h4 := h3.map (fun x : Fin (N + 1) × Int => x.1.val)
    have e1 : d'.toList.map (fun x : Fin (N + 1) × Int => x.1.val) = (List.range q).map (fun i => (d'[i]!).1.val) := by
      apply List.ext_getElem
      · simp; omega
      · intro i h5 h6
        simp only [List.getElem_map, List.getElem_range, Array.getElem_toList]
        rw [getElem!_pos d' i (by simpa using h5)]
    have e2 : es.toList.map (fun x : Fin (N + 1) × Int => x.1.val) = ks := by
      rw [hes]
      apply List.ext_getElem
      · simp
      · intro i h5 h6
        simp
        exact hlt _ (List.getElem_mem h6)
    rw [← e1, ← e2]
    exact h4
  · have := hs i j (Nat.zero_le _) h1 (by omega)
    rw [cfS_lt] at this
    have h3 : ¬ (f (d'[j]!).1.val).since < (f (d'[i]!).1.val).since := of_decide_eq_false this
    show (f (d'[i]!).1.val).since ≤ (f (d'[j]!).1.val).since
    omega
  · have hH' := hS.holds hgB.2 hH (by omega)
    have hzero : ∀ i, 0 ≤ i → i < es.size → (d'[i]!).2 = 0 := Sort.permIn_all es d' 0 es.size (fun x => x.2 = 0) (Nat.le_refl _) hp (fun i _ hi => by rw [hat i (by omega)])
    refine ⟨fun o ho => ?_, fun i hi => ?_⟩
    · have := (hH' o (by rw [Sort.size_flatK, hz, hsz]; exact ho)).2
      rwa [Nat.zero_add] at this
    · have c0 := (hH' (i * 2) (by rw [Sort.size_flatK, hz, hsz]; omega)).1
      have c1 := (hH' (i * 2 + 1) (by rw [Sort.size_flatK, hz, hsz]; omega)).1
      rw [Sort.get_flatK _ _ _ _ (by rw [hz, hsz]; omega), Nat.zero_add] at c0 c1
      rw [show i * 2 / 2 = i by omega, show i * 2 % 2 = 0 by omega] at c0
      rw [show (i * 2 + 1) / 2 = i by omega, show (i * 2 + 1) % 2 = 1 by omega] at c1
      refine ⟨c0, ?_⟩
      rw [c1]
      show some (Value.int .i64 (d'[i]!).2) = _
      rw [hzero i (Nat.zero_le _) (by omega)]
end Go.Proofs.Ytbcegdiabnapkaa
