/-
  For every slice of dependencies and every three ints, Find tells the first one of these three that is not conditional, else the first one, as the document says; so it does for each one's own three. No condition beyond the form's own reach.
-/
import Derived.Test.YtbcegdiabnapkabRows
import Derived.Test.YtbcegdiabnapkabF4
import Derived.ProofKit
import Derived.SizedLaws
import Derived.OpenShut
import Derived.ChangeOld
namespace Go.Proofs.Ytbcegdiabnapkab
set_option linter.unusedVariables false
set_option linter.unusedSimpArgs false
open Go.ChangeShapes Go.WideShapes Go.ChangeAt Go.RowKit

theorem Try.own : ownKnob Try.prog.godebug = none := by kernel_rfl
theorem Try.laidOut : laidOutB Try.prog = true := by kernel_rfl
theorem Try.cells3 : Try.prog.cellsOf 3 = 1 := by kernel_rfl
theorem Try.cells4 : Try.prog.cellsOf 4 = 1 := by kernel_rfl
theorem Try.cells9 : Try.prog.cellsOf 9 = 1 := by kernel_rfl
theorem Try.cells25 : Try.prog.cellsOf 25 = 8 := by kernel_rfl

section
variable {H : Type} {enc : TypeId × Value → H} {w : World} {base : Nat} {spare : Nat → Bool} {held : Bool}
set_option maxRecDepth 10000 in
/-- A dependency's eight cells. -/
theorem why_of_trod (n : Nat) (cs : List Value) (y : DataW H × List MemPlace) (hlen : cs.length = 8) (h : DataW.trod enc Try.prog w base spare held n 25 cs = some y) : ∃ x : MW, cs = encW x := by
  obtain ⟨xs, m, rfl, rfl, _, hxl, hf⟩ := DataW.trod_struct Try.underlying25 h
  match cs, hlen with
  | [c0, c1, c2, c3, c4, c5, c6, c7], _ =>
    match xs, hxl with
    | [x0, x1, x2, x3, x4, x5, x6, x7], _ =>
      have f0 := hf 0 _ rfl
      have f1 := hf 1 _ rfl
      have f2 := hf 2 _ rfl
      have f3 := hf 3 _ rfl
      have f4 := hf 4 _ rfl
      have f5 := hf 5 _ rfl
      have f6 := hf 6 _ rfl
      have f7 := hf 7 _ rfl
      simp [Try.cells3, Try.cells4, Try.cells9] at f0 f1 f2 f3 f4 f5 f6 f7
      obtain ⟨y0, e0, _⟩ := DataW.trod_int Try.underlying3 f0
      obtain ⟨y1, e1, _⟩ := DataW.trod_int Try.underlying3 f1
      obtain ⟨y2, e2, _⟩ := DataW.trod_int Try.underlying3 f2
      obtain ⟨y3, e3, _⟩ := DataW.trod_string Try.underlying9 f3
      obtain ⟨y4, e4, _⟩ := DataW.trod_int Try.underlying3 f4
      obtain ⟨y5, e5, _⟩ := DataW.trod_int Try.underlying3 f5
      obtain ⟨y6, e6, _⟩ := DataW.trod_bool Try.underlying4 f6
      obtain ⟨y7, e7, _⟩ := DataW.trod_bool Try.underlying4 f7
      simp at e0 e1 e2 e3 e4 e5 e6 e7
      subst e0 e1 e2 e3 e4 e5 e6 e7
      exact ⟨(y0, y1, y2, y3, y4, y5, y6, y7), rfl⟩
/-- A slice of them. -/
theorem whys_of_trod {fuel : Nat} {a : Option Addr} {len cap : Nat} {x : DataW H × List MemPlace} (h : DataW.trod enc Try.prog w base spare held fuel 22 [.slice a len cap] = some x) : ∃ f, Lw w a len f ∧ len ≤ cap ∧ (a = none → len = 0 ∧ cap = 0) := by
  rcases Deep.open_slice Try.underlying22 h with ⟨hcs, hx0⟩ | ⟨y, l, c, m, n, D, Pl, hcs, hb, hl, hm, hmm, hx0, hx⟩
  · simp at hcs
    obtain ⟨rfl, rfl, rfl⟩ := hcs
    exact ⟨fun _ => MW.zero, fun j hj => by omega, Nat.le_refl _, fun _ => ⟨rfl, rfl⟩⟩
  · simp at hcs
    obtain ⟨rfl, rfl, rfl⟩ := hcs
    have hlm : len ≤ m := by rw [hmm]; split <;> omega
    rw [Try.cells25] at hx
    have key : ∀ i, i < len → ∃ q : MW, ∀ j, j < 8 → w.cell? (y.add (i * 8 + j)) = (encW q)[j]? := fun i hi => by
      obtain ⟨cs', h1, h2⟩ := hx i (by omega)
      obtain ⟨_, hlen, hc⟩ := World.cells?_some h1
      obtain ⟨q, rfl⟩ := why_of_trod n cs' _ hlen h2
      exact ⟨q, fun j hj => by rw [← Deep.add_add]; exact hc j hj⟩
    obtain ⟨f, hf⟩ := Deep.choose_lt (α := MW) key
    refine ⟨f, fun j hj => ?_, hl, fun h => by cases h⟩
    obtain ⟨b, off, spot⟩ := y
    have hspot : spot = none := by
      have := hf 0 (by omega) 0 (by omega)
      simpa [Addr.add] using World.cell?_spot (this.trans (List.getElem?_eq_getElem (by rw [encW_len]; omega)))
    subst hspot
    have hcell : ∀ i u, (encW (f j))[i]? = some u → w.cell? ⟨b, off + j * 8 + i, none⟩ = some u := fun i u hi => by
      have hi8 : i < 8 := by have := (List.getElem?_eq_some_iff.1 hi).1; rwa [encW_len] at this
      have := hf j hj i hi8
      rw [Addr.add_lit, hi] at this
      simpa [Nat.add_assoc] using this
    exact ⟨b, off, rfl, World.block_lt_of_cell? _ _ (hcell 0 _ rfl), hcell⟩
end

set_option maxHeartbeats 800000 in
set_option maxRecDepth 100000 in
theorem lifted3 (os : Os) (started : os.Started) (H : Type) (enc : TypeId × Value → H) :
    ReturnsInHanded {} Try.checked os 3 .any (Rows.depsFindsSpec.pre6 enc Try.prog Try.f3 Rows.depsFindsRow.domain false) (Rows.depsFindsSpec.post enc Try.prog Try.f3 false true false false) := by
  refine returnsInHanded_of_change (C := Try.checked) Try.own started (by kernel_rfl) Try.func3
    (ChangeSpec.witness6 (enc := enc) (C := Try.checked) false ⟨#[], #[.slice none 0 0, .int .i64 0, .int .i64 0, .int .i64 0], []⟩ 8 (by kernel_rfl) (by kernel_rfl) (by kernel_rfl) (by kernel_rfl)) ?_
  intro W base args ds gs before hval0 hW _ _
  have hval : ∀ (j : Nat) t v, Try.f3.params[j]? = some t → args[j]? = some v → Value.okWide Try.prog W .any base t v := hval0
  have hW' := hW
  obtain ⟨p, q, hA0, hV, rfl, _, _⟩ := hW
  have hA : DataW.TrodAll enc Try.prog W 0 (fun _ => true) true Try.f3.params.toList args.toList ds p := hA0
  rw [Try.params3] at hA hval
  obtain ⟨v0, vs0, d0, ds0, p0, q0, hargs, rfl, rfl, h0, r0⟩ := trodAll_cons hA
  obtain ⟨v1, vs1, d1, ds1, p1, q1, rfl, rfl, rfl, h1, r1⟩ := trodAll_cons r0
  obtain ⟨v2, vs2, d2, ds2, p2, q2, rfl, rfl, rfl, h2, r2⟩ := trodAll_cons r1
  obtain ⟨v3, vs3, d3, ds3, p3, q3, rfl, rfl, rfl, h3, r3⟩ := trodAll_cons r2
  obtain ⟨rfl, rfl, rfl⟩ := trodAll_nil r3
  obtain rfl : args = #[v0, v1, v2, v3] := by cases args; simp_all
  obtain ⟨rfl, rfl⟩ := trodVars_none hV
  obtain ⟨a0, len0, cap0, rfl⟩ := okWide_slice Try.underlying22 (hval 0 22 v0 rfl rfl)
  obtain ⟨n1, rfl, rfl, rfl, wn1⟩ := open_int Try.underlying3 (hval 1 3 v1 rfl rfl) h1
  obtain ⟨n2, rfl, rfl, rfl, wn2⟩ := open_int Try.underlying3 (hval 2 3 v2 rfl rfl) h2
  obtain ⟨n3, rfl, rfl, rfl, wn3⟩ := open_int Try.underlying3 (hval 3 3 v3 rfl rfl) h3
  have k0 := h0
  have lt0 : ∀ x ∈ p0, x.block < W.heap.size := by obtain ⟨m, hm⟩ := k0; exact DataW.trod_lt m _ _ _ hm
  obtain ⟨fuel0, hf0⟩ := h0
  obtain ⟨f, hL, hlc, hnil⟩ := whys_of_trod hf0
  clear hA0 hval0
  refine (finds_walk a0 cap0 len0 f n1 n2 n3 W hL hlc hnil).mono fun e W' ⟨he, hn⟩ => ?_
  subst he
  exact ⟨_, rfl, _, _, _, [], _, [], hW', trodAll_mk1 (shut_bool Try.underlying4 true), (trodAll_cons_mk (Below.trod Try.laidOut (by kernel_rfl) (of_decide_eq_true (by kernel_rfl)) k0 hn lt0) (trodAll_cons_mk (shut_int Try.underlying3 wn1) (trodAll_cons_mk (shut_int Try.underlying3 wn2) (trodAll_cons_mk (shut_int Try.underlying3 wn3) trodAll_mk0)))), rfl, hn.frame _, fun h => by cases h⟩

/-- Whatever the dependencies and the three numbers: the law answers true, and the arguments read as they did. -/
theorem depsFinds_holds : Rows.DepsFindsSaid :=
  OpenClaim.holds_of_wide 3 Try.f3 rfl rfl rfl rfl rfl rfl rfl ⟨rfl, rfl, rfl, rfl, rfl⟩ rfl rfl rfl rfl rfl (by kernel_rfl) Try.func3 (by kernel_rfl)
    (of_decide_eq_true (by kernel_rfl)) (by unfold Func.isWrapper; first | (rw [if_pos (by decide +kernel)]; kernel_rfl) | (rw [if_neg (by decide +kernel)]; exact ⟨rfl, rfl⟩))
    (fun os started H enc _ => lifted3 os started H enc)

#print axioms depsFinds_holds
end Go.Proofs.Ytbcegdiabnapkab
