/-
  A state beside the document's.
-/
import Derived.Test.YtjeheknhpfkaiaaDoorN2
import Derived.Test.YtjeheknhpfkaiaaDoorR6
import Derived.Test.YtjeheknhpfkaiaaDoorM7
import Derived.Test.YtjeheknhpfkaiaaDoorTt3
namespace Go.Proofs.YtjeheknhpfkaiaaDoor
set_option linter.unusedVariables false
set_option linter.unusedSimpArgs false
open Go.RowKit Go.Lib

theorem St.down {B B' : Nat} {w : World} {sb lb rb : Nat} {F : Nat → Prop} {n : Nat} {L : List MOp} (h : St B' w sb lb rb F n L) (hB : B ≤ B') : St B w sb lb rb F n L := by
  obtain ⟨S, hS⟩ := h.ls
  exact ⟨h.ob, h.ne, h.fs, h.fl, h.fr, fun b hb => ⟨by have := (h.flt b hb).1; omega, (h.flt b hb).2⟩, ⟨S, hS.map, hS.nil, fun s => own_mono (hS.own s) hB, hS.foot, hS.apart⟩, h.rs⟩
theorem Rst.down {B B' : Nat} {w : World} {xb : Nat} {v : Value} {L : List MOp} (h : Rst B' w xb v L) (hB : B ≤ B') : Rst B w xb v L := by
  obtain ⟨rd, q1, q2, q3⟩ := h.row
  exact ⟨h.ob, rd, own_mono q1 hB, q2, q3⟩

/-- A state and the document's, both behind L, in blocks of P. -/
structure Pr (B : Nat) (w : World) (sb lb rb : Nat) (F : Nat → Prop) (xb : Nat) (v : Value) (n : Nat) (L : List MOp) (P : Nat → Prop) : Prop where
  st : St B w sb lb rb F n L
  rs : Rst B w xb v L
  fx : ¬ F xb
  fv : ∀ g, v.ownBlock = some g → ¬ F g ∧ g ≠ xb
  pf : ∀ b, F b → P b
  px : P xb
  pv : ∀ g, v.ownBlock = some g → P g
  lt : ∀ b, P b → B ≤ b ∧ b < w.heap.size

section
variable {B : Nat} {w w' w1 w2 : World} {sb lb rb : Nat} {F : Nat → Prop} {xb : Nat} {v v' : Value} {n n' : Nat} {L L' : List MOp} {P : Nat → Prop}

theorem Pr.base (h : Pr B w sb lb rb F xb v n L P) : B ≤ w.heap.size := by have := h.lt xb h.px; omega
theorem Pr.keep (h : Pr B w sb lb rb F xb v n L P) {Q : Nat → Prop} (hg : Gro Q w w') (hQ : ∀ b, P b → ¬ Q b) : Pr B w' sb lb rb F xb v n L P :=
  ⟨h.st.keep hg (fun b hb => hQ b (h.pf b hb)), h.rs.keep (hg.block xb (h.lt xb h.px).2 (hQ xb h.px)) (fun g e => hg.block g (h.lt g (h.pv g e)).2 (hQ g (h.pv g e))), h.fx, h.fv, h.pf, h.px, h.pv, fun b hb => ⟨(h.lt b hb).1, by have := (h.lt b hb).2; have := hg.size; omega⟩⟩
theorem Pr.later (h : Pr B w sb lb rb F xb v n L P) (hb : Below w.heap.size w w') : Pr B w' sb lb rb F xb v n L P :=
  h.keep (Gro.of_below (P := fun _ => False) hb) (fun _ _ c => c)
theorem Pr.more (h : Pr B w sb lb rb F xb v n L P) (hn : n ≤ n') : Pr B w sb lb rb F xb v n' L P :=
  ⟨h.st.wider (fun _ x => x) h.st.flt hn, h.rs, h.fx, h.fv, h.pf, h.px, h.pv, h.lt⟩

/-- Behind an Apply of both. -/
theorem Pr.step (h : Pr B w sb lb rb F xb v n L P) (hs : St B w1 sb lb rb (wide F w w1) n' L') (hg : Gro F w w1) (hr : Rst B w2 xb v' L') (ho : ∀ g, v'.ownBlock = some g → v.ownBlock = some g ∨ w1.heap.size ≤ g) (hg2 : Gro (fun b => b = xb) w1 w2) :
    Pr B w2 sb lb rb (wide F w w1) xb v' n' L' (wide P w w2) ∧ Gro P w w2 := by
  have hx := h.lt xb h.px
  have z1 := hg.size
  have z2 := hg2.size
  have hfx : ¬ wide F w w1 xb := fun c => by
    rcases c with c | c
    · exact h.fx c
    · omega
  refine ⟨⟨hs.keep hg2 (fun b hb e => hfx (e ▸ hb)), hr, hfx, fun g e => ?_, fun b hb => ?_, .inl h.px, fun g e => ?_, fun b hb => ?_⟩, ⟨hg2.os.trans hg.os, hg2.tape.trans hg.tape, hg2.output.trans hg.output, by omega, fun b hb hn => ?_⟩⟩
  · rcases ho g e with q | q
    · have q2 := h.fv g q
      have q3 := (h.lt g (h.pv g q)).2
      exact ⟨fun c => by
        rcases c with c | c
        · exact q2.1 c
        · omega, q2.2⟩
    · exact ⟨fun c => by
        rcases c with c | c
        · have := (h.lt g (h.pf g c)).2; omega
        · omega, by omega⟩
  · rcases hb with c | c
    · exact .inl (h.pf b c)
    · exact .inr ⟨c.1, by omega⟩
  · rcases ho g e with q | q
    · exact .inl (h.pv g q)
    · exact .inr ⟨by omega, (hr.olt e).2⟩
  · rcases hb with c | c
    · have := h.lt b c; omega
    · omega
  · exact (hg2.block b (by omega) (fun e => hn (by rw [show b = xb from e]; exact h.px))).trans (hg.block b hb (fun c => hn (h.pf b c)))

/-- Made anew. -/
theorem Pr.made {lo mid : Nat} (hs : St B w sb lb rb F n L) (hr : Rst B w xb v L) (hB : B ≤ lo) (hF : ∀ b, F b → lo ≤ b ∧ b < mid) (hlm : lo ≤ mid) (hx : mid ≤ xb) (hv : ∀ g, v.ownBlock = some g → mid ≤ g ∧ g ≠ xb) : Pr B w sb lb rb F xb v n L (fun b => lo ≤ b ∧ b < w.heap.size) :=
  ⟨hs, hr, fun c => by have := hF xb c; omega, fun g e => ⟨fun c => by have := hF g c; have := hv g e; omega, (hv g e).2⟩, fun b hb => ⟨(hF b hb).1, (hs.flt b hb).2⟩, ⟨by omega, hr.lt⟩, fun g e => ⟨by have := hv g e; omega, (hr.olt e).2⟩, fun b hb => ⟨by omega, hb.2⟩⟩
end

theorem ref_none (B : Nat) (w : World) : Rst B (w.alloc (.cells #[.slice none 0 0] 35)) w.heap.size (.slice none 0 0) [] :=
  ⟨by rw [alloc_at, if_pos rfl], [], ⟨rfl, .inl ⟨rfl, rfl⟩⟩, rfl, fun r hr => by simp at hr⟩

theorem u64_mod (n : Int) (m : Nat) (hm : 0 < m) (hm2 : m ≤ 4294967296) : ∃ N : Nat, N < m ∧ wrap64 ((IntKind.u64.wrap n).tmod m) = N := by
  rw [IntKind.wrap_u64]
  have h0 : 0 ≤ n % 18446744073709551616 := Int.emod_nonneg _ (by decide)
  rw [Int.tmod_eq_emod_of_nonneg h0]
  have h1 := Int.emod_nonneg (n % 18446744073709551616) (show (m : Int) ≠ 0 by omega)
  have h2 := Int.emod_lt_of_pos (n % 18446744073709551616) (show (0 : Int) < m by omega)
  refine ⟨(n % 18446744073709551616 % m).toNat, by omega, ?_⟩
  unfold wrap64
  omega
theorem ops_take {S : Nat → Prop} {w : World} {ao : Option Addr} {c : Nat} {l : List MOp} (h : OpsIn S w (.slice ao l.length c) l) (N : Nat) (hN : N ≤ l.length) : OpsIn S w (.slice ao N c) (l.take N) := by
  obtain ⟨ao', c', e, ⟨hb, hcp⟩, hc⟩ := h
  injection e with e1 e2 e3
  subst e1 e3
  have hl : (l.take N).length = N := by rw [List.length_take]; omega
  refine ⟨ao, c, by rw [hl], ⟨by rw [hl]; omega, by rw [hl]; omega⟩, fun h0 => ?_⟩
  rw [hl] at h0
  obtain ⟨b, off, e1, s1, h1⟩ := hc (by omega)
  refine ⟨b, off, e1, s1, fun j hj => ?_⟩
  rw [hl] at hj
  have eg : (l.take N).getD j default = l.getD j default := by simp [List.getD, List.getElem?_take, hj]
  rw [eg]
  exact h1 j (by omega)
theorem ops_drop {S : Nat → Prop} {w : World} {b off c : Nat} {l : List MOp} (h : OpsIn S w (.slice (some ⟨b, off, none⟩) l.length c) l) (N : Nat) (hN : N ≤ l.length) : OpsIn S w (.slice (some ⟨b, off + N * 6, none⟩) (l.length - N) (c - N)) (l.drop N) := by
  obtain ⟨ao', c', e, ⟨hb, hcp⟩, hc⟩ := h
  injection e with e1 e2 e3
  subst e1 e3
  have hl : (l.drop N).length = l.length - N := List.length_drop
  refine ⟨_, c - N, by rw [hl], ⟨by rw [hl]; omega, by rw [hl]; omega⟩, fun h0 => ?_⟩
  rw [hl] at h0
  obtain ⟨b', off', e1, s1, h1⟩ := hc (by omega)
  injection e1 with e1
  injection e1 with e1 e2 _
  subst e1 e2
  refine ⟨b, off + N * 6, rfl, s1, fun j hj => ?_⟩
  rw [hl] at hj
  have eg : (l.drop N).getD j default = l.getD (N + j) default := by simp [List.getD, List.getElem?_drop]
  rw [eg]
  obtain ⟨cs, q1, q2, q3⟩ := h1 (N + j) (by omega)
  refine ⟨cs, q1, q2, fun i u hi => ?_⟩
  have ea : off + N * 6 + j * 6 + i = off + (N + j) * 6 + i := by omega
  rw [ea]
  exact q3 i u hi
theorem ops_nil {S : Nat → Prop} {w : World} {a : Option Addr} {c : Nat} : OpsIn S w (.slice a 0 c) [] := ⟨a, c, rfl, ⟨by simp, Nat.zero_le _⟩, fun h => absurd h (by simp)⟩
theorem st_part (L l : List MOp) (n i : Nat) (hn : n ≤ l.length) : stM (stM L (l.take n) (l.take n).length) (l.drop n) i = stM L l (n + i) := by
  unfold stM
  rw [List.take_of_length_le (Nat.le_refl _), List.append_assoc, ← List.filter_append, List.take_add]
theorem st_first (L l : List MOp) (n i : Nat) (hi : i ≤ n) : stM L (l.take n) i = stM L l i := by
  unfold stM
  rw [List.take_take, Nat.min_eq_left hi]
theorem ok_part (L l : List MOp) (n : Nat) (hn : n ≤ l.length) : okM L l false ↔ okM L (l.take n) false ∧ okM (stM L (l.take n) (l.take n).length) (l.drop n) false := by
  have hl : (l.take n).length = n := by rw [List.length_take]; omega
  constructor
  · intro h
    refine ⟨fun i hi => ?_, fun i hi => ?_⟩
    · rw [hl] at hi
      have q := h i (by omega)
      rw [st_first L l n i (by omega)]
      have eg : (l.take n).getD i default = l.getD i default := by simp [List.getD, List.getElem?_take, hi]
      rw [eg]
      exact q
    · rw [List.length_drop] at hi
      have q := h (n + i) (by omega)
      rw [st_part L l n i hn]
      have eg : (l.drop n).getD i default = l.getD (n + i) default := by simp [List.getD, List.getElem?_drop]
      rw [eg]
      exact q
  · rintro ⟨h1, h2⟩ i hi
    by_cases hin : i < n
    · have q := h1 i (by omega)
      rw [st_first L l n i (by omega)] at q
      have eg : (l.take n).getD i default = l.getD i default := by simp [List.getD, List.getElem?_take, hin]
      rw [eg] at q
      exact q
    · have q := h2 (i - n) (by rw [List.length_drop]; omega)
      rw [st_part L l n _ hn] at q
      have eg : (l.drop n).getD (i - n) default = l.getD i default := by
        have : n + (i - n) = i := by omega
        simp [List.getD, List.getElem?_drop, this]
      rw [eg, show n + (i - n) = i by omega] at q
      exact q
theorem st_ok {L l : List MOp} (hL : OkV L) (hl : OkV l) (i : Nat) : OkV (stM L l i) := fun o ho => by
  unfold stM at ho
  rcases List.mem_append.1 ho with ho | ho
  · exact hL o ho
  · exact hl o (List.mem_of_mem_take (List.mem_filter.1 ho).1)
theorem costs_app (L l : List MOp) : costs (L ++ l) = costs L + costs l := by simp [costs]
theorem costs_filter (p : MOp → Bool) (l : List MOp) : costs (l.filter p) ≤ costs l := by
  induction l with
  | nil => simp [costs]
  | cons o l ih =>
    rw [List.filter_cons]
    split
    · simp only [costs, List.map_cons, List.sum_cons] at *; omega
    · simp only [costs, List.map_cons, List.sum_cons] at *; omega
theorem costs_take (l : List MOp) (i : Nat) : costs (l.take i) ≤ costs l := by
  conv => rhs; rw [← List.take_append_drop i l]
  rw [costs_app]
  omega
theorem st_costs (L l : List MOp) (i : Nat) : costs (stM L l i) ≤ costs L + costs l := by
  unfold stM
  rw [costs_app]
  have h1 := costs_filter wrB (l.take i)
  have h2 := costs_take l i
  omega
theorem ok_blind (L l : List MOp) : okM L l true := fun _ _ => .inl rfl
theorem ops_low {w : World} {v : Value} {l : List MOp} (h : OpsIn Any w v l) : OpsIn (fun b => b < w.heap.size) w v l := h.keep (fun _ _ _ => rfl) (fun b hb _ => hb)
set_option maxHeartbeats 4000000 in
set_option maxRecDepth 100000 in
theorem behind_is (w : World) (v : Value) (l : List MOp) (hl : OpsIn Any w v l) (hks : ∀ o ∈ l, o.key.size ≤ 281474976710656) (hn : l.length ≤ 1048576) :
    Calls Tryd.prog 5 #[v] w fun e w' => ∃ sb lb rb F xb u P, e = .returned (.tuple #[.pointer (some ⟨sb, 0, none⟩), .pointer (some ⟨xb, 0, none⟩)]) ∧ Pr w.heap.size w' sb lb rb F xb u (2 * l.length) (stM [] l l.length) P ∧ Below w.heap.size w w' := by
  have HL := hid (ops_low hl)
  have HK := hid hks
  obtain ⟨va, vc, hvv, -⟩ := id hl
  subst hvv
  clear hl hks
  go_enter Tryd.func5, Tryd.ntmps5
  go_wp2_with (first
    | (go_at_call 11
       refine (new_is _).mono ?_
       rintro e w1 ⟨sb, lb, rb, rfl, s1, b1⟩
       have S1 := hid s1
       have B1 := hid b1
       have P1 := hid (Pr.made (B := w.heap.size) (lo := w.heap.size) (mid := w1.heap.size) (s1.later ((Below.refl _ w1).alloc (Nat.le_refl _) (.cells #[.slice none 0 0] 35))) (ref_none w.heap.size w1) (Nat.le_refl _) (fun b hb => hb) b1.size (Nat.le_refl _) (fun g e => by cases e))
       obtain ⟨w2, hw2⟩ : ∃ w2, w1.alloc (.cells #[.slice none 0 0] 35) = w2 := ⟨_, rfl⟩
       have BW2 : Hid (Below w.heap.size w w2) := by rw [← hw2]; exact b1.trans ((below_box w1 _).mono b1.size)
       rw [hw2] at P1
       clear s1 b1)
    | (go_at_call 9
       refine (apply_is w.heap.size w2 sb lb rb _ 0 [] l _ true P1.out.st BW2.out.size (HL.out.keep (fun b hb _ => BW2.out.block b hb) (fun b _ hb c => by have := (P1.out.st.flt b c).1; omega)) HK.out (by unfold maxLen; omega) (fun i hi => by have h1 := lst_len (stM [] l i) (l.getD i default).key; have h2 := st_len [] l i; simp only [List.length_nil] at h2; omega)).mono ?_
       rintro e w3 ⟨bb, rfl, hbb, s3, g3⟩
       have hb3 : bb = true := hbb.2 (ok_blind _ _)
       subst hb3
       rw [if_pos rfl] at s3
       have S3 := hid s3
       have G3 := hid g3
       have B3 : Hid (Below w.heap.size w w3) := BW2.out.trans (g3.below BW2.out.size (fun i hi c => by have := (P1.out.st.flt i c).1; omega))
       clear s3 g3 hbb)
    | (go_at_call 10
       refine (rapply_is w.heap.size w3 _ _ [] l _ true (P1.out.rs.keep (G3.out.block _ (P1.out.lt _ P1.out.px).2 P1.out.fx) (fun g e => G3.out.block g (P1.out.lt g (P1.out.pv g e)).2 (P1.out.fv g e).1)) B3.out.size (HL.out.keep (fun b hb _ => B3.out.block b hb) (fun _ _ _ => trivial)) (by simp; omega)).mono ?_
       rintro e w4 ⟨bb, u, rfl, hbb, r4, o4, g4⟩
       have hb4 : bb = true := hbb.2 (ok_blind _ _)
       subst hb4
       rw [if_pos rfl] at r4
       have PS := hid (P1.out.step S3.out G3.out r4 o4 g4)
       clear r4 o4 g4 hbb))
  go_ret2
  obtain ⟨p1, p2⟩ := PS.out
  rw [Nat.zero_add] at p1
  exact ⟨sb, lb, rb, _, _, u, _, rfl, p1, BW2.out.trans (p2.below BW2.out.size (fun i hi c => by have := (P1.out.lt i c).1; omega))⟩
end Go.Proofs.YtjeheknhpfkaiaaDoor
