/-
  The document's step.
  wrong: what is wrong with an event behind those so far.
-/
import Derived.Test.YtjobdfgcgnpppaaDoorJ6
namespace Go.Proofs.YtjobdfgcgnpppaaDoor
set_option linter.unusedVariables false
set_option linter.unusedSimpArgs false
open Go.RowKit Go.Lib Go.Maps

def rsR (inv opn gn ask fit : Bool) : Int := if inv then (if gn || opn then 30 else if !fit then 32 else 0) else (if !opn then 31 else if !ask then 32 else if !fit then 32 else 0)
/-- What a step leaves: a process's two cells may be written. -/
def StepP (w : World) (sb k p : Nat) (ek r : Int) (e : Ending) (w' : World) : Prop := e = .returned (.int .i64 r) ∧ ∃ V, Below w.heap.size w V ∧ w' = if r = 0 then (if ek = 1 then V.setCell ⟨sb, p * 2 + 1, none⟩ (.int .i64 (k : Int)) else (V.setCell ⟨sb, p * 2 + 1, none⟩ (.int .i64 (-1))).setCell ⟨sb, p * 2, none⟩ (.bool (ek == 4))) else V
set_option maxHeartbeats 8000000 in
set_option maxRecDepth 100000 in
theorem step_walk {S S' : Nat → Prop} (w : World) (lb lo n lc k p sb : Nat) (ek op : Int) (O X : List MOp) (v xv : Value) (i : Nat) (inv opn gn ask fit : Bool)
    (hk : k < n) (hn : n ≤ 300) (hi : (ek == (1 : Int)) = inv) (ho : op = if opn then (i : Int) else -1)
    (c0 : w.cell? ⟨lb, lo + k * 3, none⟩ = some (.int .i64 ek)) (c1 : w.cell? ⟨lb, lo + k * 3 + 1, none⟩ = some (.int .i64 (p : Int))) (c2 : w.cell? ⟨lb, lo + k * 3 + 2, none⟩ = some v)
    (s0 : w.cell? ⟨sb, p * 2, none⟩ = some (.bool gn)) (s1 : w.cell? ⟨sb, p * 2 + 1, none⟩ = some (.int .i64 op)) (f0 : w.frozen? ⟨sb, p * 2, none⟩ = false) (f1 : w.frozen? ⟨sb, p * 2 + 1, none⟩ = false)
    (hx : opn = true → i < n ∧ w.cell? ⟨lb, lo + i * 3 + 2, none⟩ = some xv ∧ OpsIn S' w xv X ∧ allEq askB X O = ask)
    (hv : OpsIn S w v O) (hfit : filB O (ek == 2) = fit) :
    Calls Tryd.prog 20 #[.slice (some ⟨lb, lo, none⟩) n lc, .int .i64 (k : Int), .pointer (some ⟨sb, p * 2, none⟩)] w fun e w' => StepP w sb k p ek (rsR inv opn gn ask fit) e w' := by
  have hki : (k : Int) < (n : Int) := by omega
  obtain ⟨va, vc, rfl, _⟩ := id hv
  obtain ⟨W, hW⟩ : ∃ W, w.alloc (.cells #[.int .i64 ek, .int .i64 (p : Int), .slice va O.length vc] 42) = W := ⟨_, rfl⟩
  have BW1 : Hid (Below w.heap.size w W) := by rw [← hW]; exact below_box w _
  obtain ⟨xb, hxb⟩ : ∃ xb, w.heap.size = xb := ⟨_, rfl⟩
  have x0 : W.cell? ⟨xb, 0, none⟩ = some (.int .i64 ek) := by rw [← hW, ← hxb]; exact new_cells w _ 42 0
  have x1 : W.cell? ⟨xb, 1, none⟩ = some (.int .i64 (p : Int)) := by rw [← hW, ← hxb]; exact new_cells w _ 42 1
  have x2 : W.cell? ⟨xb, 2, none⟩ = some (.slice va O.length vc) := by rw [← hW, ← hxb]; exact new_cells w _ 42 2
  have t0 := cell_later BW1.out s0
  have t1 := cell_later BW1.out s1
  have hsb := World.block_lt_of_cell? _ _ s0
  have g0 : W.frozen? ⟨sb, p * 2, none⟩ = false := (BW1.out.frozen (p := ⟨sb, p * 2, none⟩) hsb).trans f0
  have g1 : W.frozen? ⟨sb, p * 2 + 1, none⟩ = false := (BW1.out.frozen (p := ⟨sb, p * 2 + 1, none⟩) hsb).trans f1
  cases inv with
  | true =>
    have hek : ek = 1 := by simpa using hi
    subst hek
    have FL : Hid (∀ V, Below W.heap.size W V → Calls Tryd.prog 33 #[.slice va O.length vc, .bool false] V fun e w' => e = .returned (.bool fit) ∧ Below W.heap.size W w') := fun V hV => by
      have q := filled_is (.slice va O.length vc) O false V (hv.keep (T := Any) (keeps_below (bstep hV BW1.out)) (fun _ _ _ => trivial))
      rw [show filB O false = fit from hfit] at q
      exact q.mono fun e w' ⟨h1, h2⟩ => ⟨h1, bstep h2 hV⟩
    cases gn with
    | true =>
      go_enter Tryd.func20, Tryd.ntmps20
      go_wp2_with fail
      go_ret
      exact ⟨rfl, W, BW1.out, (if_neg (by simp [rsR])).symm⟩
    | false =>
      cases opn with
      | true =>
        have hop : op = (i : Int) := ho
        clear ho
        subst hop
        have hi0 : (0 : Int) ≤ (i : Int) := by omega
        go_enter Tryd.func20, Tryd.ntmps20
        go_wp2_with fail
        go_ret
        exact ⟨rfl, W, BW1.out, (if_neg (by simp [rsR])).symm⟩
      | false =>
        have hop : op = -1 := ho
        clear ho
        subst hop
        cases fit with
        | false =>
          go_enter Tryd.func20, Tryd.ntmps20
          go_wp2_with (go_at_call 33; refine (FL.out _ (Below.refl _ _)).mono ?_; rintro e w2 ⟨rfl, b2⟩; have B2 := hid b2; clear b2)
          go_ret
          exact ⟨rfl, w2, bstep B2.out BW1.out, (if_neg (by simp [rsR])).symm⟩
        | true =>
          go_enter Tryd.func20, Tryd.ntmps20
          go_wp2_with (go_at_call 33; refine (FL.out _ (Below.refl _ _)).mono ?_; rintro e w2 ⟨rfl, b2⟩; have B2 := hid b2; have u1 := cell_later b2 t1; have e1 : w2.frozen? ⟨sb, p * 2 + 1, none⟩ = false := (b2.frozen (p := ⟨sb, p * 2 + 1, none⟩) (World.block_lt_of_cell? _ _ t1)).trans g1; clear b2)
          go_ret
          exact ⟨rfl, w2, bstep B2.out BW1.out, by rw [if_pos (by simp [rsR]), if_pos rfl]⟩
  | false =>
    have hek : ek ≠ 1 := by simpa using hi
    cases opn with
    | false =>
      have hop : op = -1 := ho
      clear ho
      subst hop
      go_enter Tryd.func20, Tryd.ntmps20
      go_wp2_with fail
      go_ret
      exact ⟨rfl, W, BW1.out, (if_neg (by simp [rsR])).symm⟩
    | true =>
      have hop : op = (i : Int) := ho
      clear ho
      subst hop
      obtain ⟨hin, cx, hX, hask⟩ := hx rfl
      have hi0 : (0 : Int) ≤ (i : Int) := by omega
      have hii : (i : Int) < (n : Int) := by omega
      obtain ⟨e2, he2⟩ : ∃ e2, (ek == (2 : Int)) = e2 := ⟨_, rfl⟩
      obtain ⟨e4, he4⟩ : ∃ e4, (ek == (4 : Int)) = e4 := ⟨_, rfl⟩
      have HE4 := hid he4
      rw [he2] at hfit
      have ST : Hid (∀ p : BW W, Calls Tryd.prog 34 #[xv, .slice va O.length vc] p.val fun e w'' => e = .returned (.bool ask) ∧ ∃ p' : BW W, w'' = p'.val) := fun p => by
        have q := comp_is xv (.slice va O.length vc) X O p.val (hX.keep (T := Any) (keeps_below (bstep p.2 BW1.out)) (fun _ _ _ => trivial)) (hv.keep (T := Any) (keeps_below (bstep p.2 BW1.out)) (fun _ _ _ => trivial))
        rw [hask] at q
        exact q.mono fun e w' ⟨h1, h2⟩ => ⟨h1, ⟨w', bstep h2 p.2⟩, rfl⟩
      have FL : Hid (∀ p : BW W, Calls Tryd.prog 33 #[.slice va O.length vc, .bool e2] p.val fun e w'' => e = .returned (.bool fit) ∧ ∃ p' : BW W, w'' = p'.val) := fun p => by
        have q := filled_is (.slice va O.length vc) O e2 p.val (hv.keep (T := Any) (keeps_below (bstep p.2 BW1.out)) (fun _ _ _ => trivial))
        rw [hfit] at q
        exact q.mono fun e w' ⟨h1, h2⟩ => ⟨h1, ⟨w', bstep h2 p.2⟩, rfl⟩
      have v0 := bcell (cell_later BW1.out cx)
      have v1 := bcell x2
      have v2 := bcell x0
      have v3 := bcell t1
      have bwS : Nonempty (BW W) := bwSome W
      have X0 := hid x0
      have T0 := hid t0
      have T1 := hid t1
      have hsW : sb < W.heap.size := World.block_lt_of_cell? _ _ t0
      have G0 := hid g0
      have G1 := hid g1
      have HEK := hid hek
      clear hX hask hv hfit hek hx
      cases ask with
      | false =>
        go_enter Tryd.func20, Tryd.ntmps20
        go_wp2_with fail
        clear hW
        refine wp_region_quiet_below Tryd.mixedOrders (by kernel_rfl) ?_
        repeat (go_big_quiet_step ((go_at_call 34; exact ST.out _)))
        refine wpQuiet_nil ?_
        intro w7 hw7
        obtain ⟨⟨V7, hb7⟩, hw8⟩ := hw7
        have hw9 : w7 = V7 := hw8
        subst hw9
        have B7 := hid hb7
        clear hw8 v0 v1 v2 v3 ST FL bwS hb7
        go_wp2_with fail
        go_ret
        exact ⟨rfl, w7, bstep B7.out BW1.out, (if_neg (by simp [rsR])).symm⟩
      | true =>
        cases fit with
        | false =>
          go_enter Tryd.func20, Tryd.ntmps20
          go_wp2_with fail
          clear hW
          refine wp_region_quiet_below Tryd.mixedOrders (by kernel_rfl) ?_
          repeat (go_big_quiet_step ((first | (go_at_call 34; exact ST.out _) | (go_at_call 33; exact FL.out _))))
          refine wpQuiet_nil ?_
          intro w7 hw7
          obtain ⟨⟨V7, hb7⟩, hw8⟩ := hw7
          have hw9 : w7 = V7 := hw8
          subst hw9
          have B7 := hid hb7
          clear hw8 v0 v1 v2 v3 ST FL bwS hb7
          go_wp2_with fail
          go_ret
          exact ⟨rfl, w7, bstep B7.out BW1.out, (if_neg (by simp [rsR])).symm⟩
        | true =>
          go_enter Tryd.func20, Tryd.ntmps20
          go_wp2_with fail
          clear hW
          refine wp_region_quiet_below Tryd.mixedOrders (by kernel_rfl) ?_
          repeat (go_big_quiet_step ((first | (go_at_call 34; exact ST.out _) | (go_at_call 33; exact FL.out _))))
          refine wpQuiet_nil ?_
          intro w7 hw7
          obtain ⟨⟨V7, hb7⟩, hw8⟩ := hw7
          have hw9 : w7 = V7 := hw8
          subst hw9
          have B7 := hid hb7
          have y0 := cell_later hb7 X0.out
          have u0 := cell_later hb7 T0.out
          have u1 := cell_later hb7 T1.out
          have e0 : w7.frozen? ⟨sb, p * 2, none⟩ = false := (hb7.frozen (p := ⟨sb, p * 2, none⟩) hsW).trans G0.out
          have e1 : w7.frozen? ⟨sb, p * 2 + 1, none⟩ = false := (hb7.frozen (p := ⟨sb, p * 2 + 1, none⟩) hsW).trans G1.out
          have hxs : xb ≠ sb := by omega
          have z0 : (w7.setCell ⟨sb, p * 2 + 1, none⟩ (.int .i64 (-1))).cell? ⟨xb, 0, none⟩ = some (.int .i64 ek) := (World.cell?_setCell_other _ _ _ _ (fun c => hxs (congrArg Addr.block c).symm)).trans y0
          have z1 : (w7.setCell ⟨sb, p * 2 + 1, none⟩ (.int .i64 (-1))).cell? ⟨sb, p * 2, none⟩ = some (.bool gn) := (World.cell?_setCell_other _ _ _ _ (fun c => by have := congrArg Addr.off c; simp at this)).trans u0
          clear hw8 v0 v1 v2 v3 ST FL bwS hb7
          go_wp2_with fail
          go_ret
          exact ⟨rfl, w7, bstep B7.out BW1.out, by rw [if_pos (by simp [rsR]), if_neg HEK.out, show (ek == 4) = e4 from HE4.out]⟩
end Go.Proofs.YtjobdfgcgnpppaaDoor
namespace Go.Proofs.YtjobdfgcgnpppaaDoor
set_option linter.unusedVariables false
set_option linter.unusedSimpArgs false
open Go.RowKit Go.Lib Go.Maps

theorem ButB.of_below {hb : Nat} {w w' : World} (h : Below w.heap.size w w') : ButB hb w w' := (ButB.refl hb w).below h
theorem ButB.trans {hb : Nat} {w w1 w2 : World} (h : ButB hb w w1) (h2 : ButB hb w1 w2) : ButB hb w w2 := ⟨h2.1.trans h.1, h2.2.1.trans h.2.1, h2.2.2.1.trans h.2.2.1, Nat.le_trans h.2.2.2.1 h2.2.2.2.1, fun b hl hn => (h2.2.2.2.2 b (Nat.lt_of_lt_of_le hl h.2.2.2.1) hn).trans (h.2.2.2.2 b hl hn)⟩
def wrR (inv b gn ask fit nb : Bool) : Int :=
  if inv then (if b || gn then 30 else if !fit then 32 else if !nb then 33 else 0)
  else (if !b then 31 else if !ask then 32 else if !fit then 32 else if !nb then 33 else 0)
set_option maxHeartbeats 4000000 in
set_option maxRecDepth 100000 in
theorem wrong_walk {S S' : Nat → Prop} (w : World) (pb ob hb m : Nat) (A O X : List MOp) (ek : Int) (p T : Nat) (v tv ov : Value) (inv b gn ask fit nb : Bool)
    (hi : (ek == (1 : Int)) = inv) (hp : p < 100) (hfit : fitB (ek, (p : Int), O) = fit) (hnb : noteB A O = nb)
    (c1 : w.cell? ⟨pb, 1, none⟩ = some (.map (some ob))) (c2 : w.cell? ⟨pb, 102, none⟩ = some (.map (some hb))) (cg : w.cell? ⟨pb, 2 + p, none⟩ = some (.bool gn)) (c0 : w.cell? ⟨pb, 0, none⟩ = some tv)
    (hlk : ∀ V : World, V.heap[ob]? = w.heap[ob]? → (Instr.lookup 63 (.map (some ob)) (.int .i64 (p : Int)) true).run Tryd.prog V = .ok (.tuple #[.int .i64 (T : Int), .bool b]) V) (hobl : ob < w.heap.size)
    (hx : inv = false → b = true → ∃ g N c, tv = .slice (some ⟨g, 0, none⟩) N c ∧ T < N ∧ N ≤ 1000000 ∧ w.cell? ⟨g, T * 5 + 4, none⟩ = some ov ∧ OpsIn S' w ov X ∧ allEq askB X O = ask)
    (hv : OpsIn S w v O) (hS : ∀ b, S b → b ≠ hb) (ht : TH w hb m A) (hok : ∀ o ∈ O, okK o) (hks : ∀ o ∈ O, o.key.size ≤ maxLen) (hm : m + O.length < maxLen) :
    Calls Tryd.prog 44 #[.pointer (some ⟨pb, 0, none⟩), .agg #[.int .i64 ek, .int .i64 (p : Int), v]] w fun e w' => e = .returned (.int .i64 (wrR inv b gn ask fit nb)) ∧ ButB hb w w' ∧ (wrR inv b gn ask fit nb = 0 → TH w' hb (m + O.length) (A ++ O)) := by
  have hpi : (p : Int) < 100 := by omega
  have hpb : pb < w.heap.size := World.block_lt_of_cell? _ _ c1
  obtain ⟨W, hW⟩ : ∃ W, w.alloc (.cells #[.int .i64 ek, .int .i64 (p : Int), v] 42) = W := ⟨_, rfl⟩
  have BW1 : Hid (Below w.heap.size w W) := by rw [← hW]; exact below_box w _
  obtain ⟨xb, hxb⟩ : ∃ xb, w.heap.size = xb := ⟨_, rfl⟩
  have x0 : W.cell? ⟨xb, 0, none⟩ = some (.int .i64 ek) := by rw [← hW, ← hxb]; exact new_cells w _ 42 0
  have x1 : W.cell? ⟨xb, 1, none⟩ = some (.int .i64 (p : Int)) := by rw [← hW, ← hxb]; exact new_cells w _ 42 1
  have x2 : W.cell? ⟨xb, 2, none⟩ = some v := by rw [← hW, ← hxb]; exact new_cells w _ 42 2
  have k1 := cell_later BW1.out c1
  have k2 := cell_later BW1.out c2
  have kg := cell_later BW1.out cg
  have k0 := cell_later BW1.out c0
  have lk : ∀ n, (Instr.lookup 63 (.map (some ob)) (.int .i64 (p : Int)) true).run Tryd.prog (W.drewN n) = .ok (.tuple #[.int .i64 (T : Int), .bool b]) (W.drewN n) := fun n => hlk _ (BW1.out.block ob hobl)
  have FT : Hid (∀ V, Below W.heap.size W V → Calls Tryd.prog 54 #[.agg #[.int .i64 ek, .int .i64 (p : Int), v]] V fun e w' => e = .returned (.bool fit) ∧ Below W.heap.size W w') := fun V hV => by
    have q := fit_is ek (p : Int) v O V (hv.keep (S := S) (T := Any) (keeps_below (bstep hV BW1.out)) (fun _ _ _ => trivial))
    rw [hfit] at q
    exact q.mono fun e w' ⟨h1, h2⟩ => ⟨h1, bstep h2 hV⟩
  cases inv with
  | true =>
    cases b with
    | true =>
        go_enter Tryd.func44, Tryd.ntmps44
        go_wp2_with fail
        clear hW
        go_quiet (fail)
        go_wp2_with fail
        go_quiet (fail)
        go_wp2_with fail
        go_ret
        exact ⟨by cases gn <;> rfl, ButB.of_below (by repeat (first | exact BW1.out | refine below_drewN ?_ _)), fun c => by cases gn <;> simp [wrR] at c⟩
    | false =>
      cases gn with
      | true =>
        go_enter Tryd.func44, Tryd.ntmps44
        go_wp2_with fail
        clear hW
        go_quiet (fail)
        go_wp2_with fail
        go_quiet (fail)
        go_wp2_with fail
        go_ret
        exact ⟨rfl, ButB.of_below (by repeat (first | exact BW1.out | refine below_drewN ?_ _)), fun c => by simp [wrR] at c⟩
      | false =>
        go_enter Tryd.func44, Tryd.ntmps44
        go_wp2_with fail
        clear hW
        go_quiet (fail)
        go_wp2_with fail
        go_quiet (fail)
        go_wp2_with fail
        go_quiet (fail)
        cases fit with
        | false =>
          go_wp2_with (go_at_call 54; refine (FT.out _ (by repeat (first | exact Below.refl _ _ | refine below_drewN ?_ _))).mono ?_; rintro e w2 ⟨rfl, b2⟩; have B2W : Hid (Below W.heap.size W w2.drew) := below_drew b2; have B2 : Hid (Below w.heap.size w w2.drew) := below_drew (bstep b2 BW1.out); clear b2)
          go_ret
          exact ⟨rfl, ButB.of_below ⟨B2.out.os, B2.out.tape, B2.out.output, B2.out.size, B2.out.block⟩, fun c => by simp [wrR] at c⟩
        | true =>
          go_wp2_with (go_at_call 54; refine (FT.out _ (by repeat (first | exact Below.refl _ _ | refine below_drewN ?_ _))).mono ?_; rintro e w2 ⟨rfl, b2⟩; have B2W : Hid (Below W.heap.size W w2.drew) := below_drew b2; have B2 : Hid (Below w.heap.size w w2.drew) := below_drew (bstep b2 BW1.out); clear b2)
          have E2 : Hid (w2.drew.cell? ⟨pb, 102, none⟩ = some (.map (some hb))) := cell_later B2.out c2
          have EX : Hid (w2.drew.cell? ⟨xb, 2, none⟩ = some v) := cell_later B2W.out x2
          have NT : Hid (Calls Tryd.prog 55 #[.map (some hb), v] w2.drew fun e w' => e = .returned (.bool nb) ∧ ButB hb w2.drew w' ∧ (nb = true → TH w' hb (m + O.length) (A ++ O))) := by
            have q := note_is (S := fun b => S b ∧ b < w.heap.size) v A O w2.drew hb m (hv.keep (keeps_below B2.out) (fun b hb hs => ⟨hs, hb⟩)) (fun b hs => hS b hs.1) (ht.same (B2.out.block hb ht.lt)) hok hks hm
            unfold NotePost at q
            rw [hnb] at q
            exact q
          have B2B : Hid (∀ w', ButB hb w2.drew w' → ButB hb w w') := fun w' q => ButB.trans (ButB.of_below B2.out) q
          refine wp_region_gen Tryd.mixedOrders (by kernel_rfl) (fun val => { tmps := #[_, _, _, _, _, _, _, _, _, _, _, _, _, _, _, _, _, _, _, _, _, _, _, _, _, _, _, _, _, _, _, _, _, _, _, _, _, _, _, _, _, _, _, _, _, _, _, _, _, _, _, _, _, _, _, _, _, _, _, _, _, _, _, val 8, val 0, val 1, val 2, val 3, val 4, val 5, val 6, val 7], defers := [] }) (fun i => match i with | 0 => undef | 1 => undef | 2 => undef | 3 => undef | 4 => undef | 5 => undef | 6 => undef | 7 => undef | 8 => undef | _ => undef) rfl (fun L V => if L 6 = true then ButB hb w V ∧ (nb = true → TH V hb (m + O.length) (A ++ O)) else V = w2.drew) (fun L i y V => match i with | 0 => y = .pointer (some ⟨pb, 0, none⟩) | 1 => y = .pointer (some ⟨pb, 0, none⟩) | 2 => y = .pointer (some ⟨pb, 102, none⟩) | 3 => y = .map (some hb) | 4 => y = .pointer (some ⟨xb, 2, none⟩) | 5 => y = v | 6 => y = .bool nb | 7 => y = .bool (!nb) | 8 => y = .bool (!nb) | _ => True) rfl _ rfl ⟨?_, ?_, ?_, ?_, ?_, ?_, ?_, ?_, ?_, trivial⟩ ?_
          · refine gen_plain rfl (fun _ _ => rfl) (fun L val V hc hi hu hg hd => ?_)
            refine gdoes_value (v := .pointer (some ⟨pb, 0, none⟩)) ?_ rfl hg (fun j u hj hr => hr)
            simp [execOp, Act.eval, go_sem]
          · refine gen_plain rfl (fun _ _ => rfl) (fun L val V hc hi hu hg hd => ?_)
            have h0 : val 0 = .pointer (some ⟨pb, 0, none⟩) := depsG_get hd 0 (by kernel_rfl)
            refine gdoes_value (v := .pointer (some ⟨pb, 0, none⟩)) ?_ rfl hg (fun j u hj hr => hr)
            simp [execOp, Act.eval, go_sem, h0]
          · refine gen_plain rfl (fun _ _ => rfl) (fun L val V hc hi hu hg hd => ?_)
            have h1 : val 1 = .pointer (some ⟨pb, 0, none⟩) := depsG_get hd 1 (by kernel_rfl)
            refine gdoes_value (v := .pointer (some ⟨pb, 102, none⟩)) ?_ rfl hg (fun j u hj hr => hr)
            simp [execOp, Act.eval, go_sem, h1]
          · refine gen_plain rfl (fun _ _ => rfl) (fun L val V hc hi hu hg hd => ?_)
            have h2 : val 2 = .pointer (some ⟨pb, 102, none⟩) := depsG_get hd 2 (by kernel_rfl)
            have hV : V = w2.drew := by have q : L 6 = false := wants_back hc 9 6 3 (by kernel_rfl) hi; simpa [q] using hg
            have e2 : V.cell? ⟨pb, 102, none⟩ = some (.map (some hb)) := by rw [hV]; exact E2.out
            refine gdoes_value (v := .map (some hb)) ?_ rfl hg (fun j u hj hr => hr)
            simp [execOp, Act.eval, go_sem, h2, e2]
          · refine gen_plain rfl (fun _ _ => rfl) (fun L val V hc hi hu hg hd => ?_)
            refine gdoes_value (v := .pointer (some ⟨xb, 2, none⟩)) ?_ rfl hg (fun j u hj hr => hr)
            simp [execOp, Act.eval, go_sem]
          · refine gen_plain rfl (fun _ _ => rfl) (fun L val V hc hi hu hg hd => ?_)
            have h4 : val 4 = .pointer (some ⟨xb, 2, none⟩) := depsG_get hd 4 (by kernel_rfl)
            have hV : V = w2.drew := by have q : L 6 = false := wants_back hc 9 6 5 (by kernel_rfl) hi; simpa [q] using hg
            have e2 : V.cell? ⟨xb, 2, none⟩ = some v := by rw [hV]; exact EX.out
            refine gdoes_value (v := v) ?_ rfl hg (fun j u hj hr => hr)
            simp [execOp, Act.eval, go_sem, h4, e2]
          · refine gen_plain rfl (fun _ _ => rfl) (fun L val V hc hi hu hg hd => ?_)
            have h3 : val 3 = .map (some hb) := depsG_get hd 3 (by kernel_rfl)
            have h5 : val 5 = v := depsG_get hd 5 (by kernel_rfl)
            have hV : V = w2.drew := by simpa [hi] using hg
            refine gdoes_call (f := 55) (args := #[.map (some hb), v]) ?_ (by rw [hV]; exact NT.out) ?_
            · simp [execOp, Act.eval, go_sem, resolve, invoke, h3, h5]
            · rintro e w' ⟨q1, q2, q3⟩
              exact ⟨_, q1, rfl, (by rw [if_pos (upB_self L 6)]; exact ⟨B2B.out _ q2, q3⟩), fun j u hj hr => hr⟩
          · refine gen_plain rfl (fun _ _ => rfl) (fun L val V hc hi hu hg hd => ?_)
            have h6 : val 6 = .bool nb := depsG_get hd 6 (by kernel_rfl)
            refine gdoes_value (v := .bool (!nb)) ?_ rfl hg (fun j u hj hr => hr)
            simp [execOp, Act.eval, go_sem, h6]
          · refine gen_plain rfl (fun _ _ => rfl) (fun L val V hc hi hu hg hd => ?_)
            have h7 : val 7 = .bool (!nb) := depsG_get hd 7 (by kernel_rfl)
            refine gdoes_value (v := .bool (!nb)) ?_ rfl hg (fun j u hj hr => hr)
            simp [execOp, Act.eval, go_sem, h7]
          intro L val V hL hg hR
          have h8 : val 8 = .bool (!nb) := hR 8 (by decide)
          rw [if_pos (hL 6 (by decide))] at hg
          have HG := hid hg
          clear hg hR hL
          obtain ⟨v8, hv8⟩ : ∃ v8, val 8 = v8 := ⟨_, rfl⟩
          rw [h8] at hv8
          simp only [h8]
          cases nb with
          | true =>
            go_wp2_with fail
            go_ret
            exact ⟨rfl, HG.out.1, fun _ => HG.out.2 (by trivial)⟩
          | false =>
            go_wp2_with fail
            go_ret
            exact ⟨rfl, HG.out.1, fun c => by simp [wrR] at c⟩
  | false =>
    cases b with
    | false =>
        go_enter Tryd.func44, Tryd.ntmps44
        go_wp2_with fail
        clear hW
        go_quiet (fail)
        go_wp2_with fail
        go_quiet (fail)
        go_wp2_with fail
        go_ret
        exact ⟨rfl, ButB.of_below (by repeat (first | exact BW1.out | refine below_drewN ?_ _)), fun c => by simp [wrR] at c⟩
    | true =>
        obtain ⟨g, N, c, rfl, hT, hN, cx, hX, hask⟩ := hx rfl rfl
        have hTi : (T : Int) < (N : Int) := by omega
        go_enter Tryd.func44, Tryd.ntmps44
        go_wp2_with fail
        clear hW
        go_quiet (fail)
        rename Nat => n1
        go_wp2_with fail
        go_quiet (fail)
        rename Nat => n2
        go_wp2_with fail
        generalize hV3 : W.drewN (n1 + n2) = V3
        have BV3 : Hid (Below W.heap.size W V3) := by rw [← hV3]; exact (by repeat (first | exact Below.refl _ _ | refine below_drewN ?_ _))
        have BV3w := hid (bstep BV3.out BW1.out)
        have v0 := bcell (cell_later BV3.out k0)
        have v1 := bcell (cell_later BV3.out x2)
        have v2 := bcell (cell_later BV3w.out cx)
        have ST : Hid (∀ p : BW V3, Calls Tryd.prog 36 #[ov, v, .func (.func 53) #[] #[]] p.val fun e w'' => e = .returned (.bool ask) ∧ ∃ p' : BW V3, w'' = p'.val) := fun p => by
          have q := asks_any ov v X O p.val (hX.keep (T := Any) (keeps_below (bstep p.2 BV3w.out)) (fun _ _ _ => trivial)) (hv.keep (T := Any) (keeps_below (bstep p.2 BV3w.out)) (fun _ _ _ => trivial))
          rw [hask] at q
          exact q.mono fun e w' ⟨h1, h2⟩ => ⟨h1, ⟨w', bstep h2 p.2⟩, rfl⟩
        have bwS : Nonempty (BW V3) := bwSome V3
        clear hV3
        refine wp_region_quiet_below Tryd.mixedOrders (by kernel_rfl) ?_
        repeat (go_big_quiet_step ((go_at_call 36; exact ST.out _)))
        refine wpQuiet_nil ?_
        intro w7 hw7
        obtain ⟨⟨V7, hb7⟩, hw8⟩ := hw7
        have hw9 : w7 = V7 := hw8
        subst hw9
        clear hw8 v0 v1 v2 ST bwS
        have BV7 := hid (bstep hb7 BV3.out)
        have y0 := cell_later BV7.out x0
        have y1 := cell_later BV7.out x1
        have y2 := cell_later BV7.out x2
        clear hb7
        cases ask with
        | false =>
          go_wp2_with fail
          go_ret
          exact ⟨rfl, ButB.of_below (bstep BV7.out BW1.out), fun c => by simp [wrR] at c⟩
        | true =>
          cases fit with
          | false =>
            go_wp2_with (go_at_call 54; refine (FT.out _ (BV7.out)).mono ?_; rintro e w2 ⟨rfl, b2⟩; have B2W : Hid (Below W.heap.size W w2.drew) := below_drew b2; have B2 : Hid (Below w.heap.size w w2.drew) := below_drew (bstep b2 BW1.out); clear b2)
            go_ret
            exact ⟨rfl, ButB.of_below ⟨B2.out.os, B2.out.tape, B2.out.output, B2.out.size, B2.out.block⟩, fun c => by simp [wrR] at c⟩
          | true =>
            go_wp2_with (go_at_call 54; refine (FT.out _ (BV7.out)).mono ?_; rintro e w2 ⟨rfl, b2⟩; have B2W : Hid (Below W.heap.size W w2.drew) := below_drew b2; have B2 : Hid (Below w.heap.size w w2.drew) := below_drew (bstep b2 BW1.out); clear b2)
            have E2 : Hid (w2.drew.cell? ⟨pb, 102, none⟩ = some (.map (some hb))) := cell_later B2.out c2
            have EX : Hid (w2.drew.cell? ⟨xb, 2, none⟩ = some v) := cell_later B2W.out x2
            have NT : Hid (Calls Tryd.prog 55 #[.map (some hb), v] w2.drew fun e w' => e = .returned (.bool nb) ∧ ButB hb w2.drew w' ∧ (nb = true → TH w' hb (m + O.length) (A ++ O))) := by
              have q := note_is (S := fun b => S b ∧ b < w.heap.size) v A O w2.drew hb m (hv.keep (keeps_below B2.out) (fun b hb hs => ⟨hs, hb⟩)) (fun b hs => hS b hs.1) (ht.same (B2.out.block hb ht.lt)) hok hks hm
              unfold NotePost at q
              rw [hnb] at q
              exact q
            have B2B : Hid (∀ w', ButB hb w2.drew w' → ButB hb w w') := fun w' q => ButB.trans (ButB.of_below B2.out) q
            refine wp_region_gen Tryd.mixedOrders (by kernel_rfl) (fun val => { tmps := #[_, _, _, _, _, _, _, _, _, _, _, _, _, _, _, _, _, _, _, _, _, _, _, _, _, _, _, _, _, _, _, _, _, _, _, _, _, _, _, _, _, _, _, _, _, _, _, _, _, _, _, _, _, _, _, _, _, _, _, _, _, _, _, val 8, val 0, val 1, val 2, val 3, val 4, val 5, val 6, val 7], defers := [] }) (fun i => match i with | 0 => undef | 1 => undef | 2 => undef | 3 => undef | 4 => undef | 5 => undef | 6 => undef | 7 => undef | 8 => undef | _ => undef) rfl (fun L V => if L 6 = true then ButB hb w V ∧ (nb = true → TH V hb (m + O.length) (A ++ O)) else V = w2.drew) (fun L i y V => match i with | 0 => y = .pointer (some ⟨pb, 0, none⟩) | 1 => y = .pointer (some ⟨pb, 0, none⟩) | 2 => y = .pointer (some ⟨pb, 102, none⟩) | 3 => y = .map (some hb) | 4 => y = .pointer (some ⟨xb, 2, none⟩) | 5 => y = v | 6 => y = .bool nb | 7 => y = .bool (!nb) | 8 => y = .bool (!nb) | _ => True) rfl _ rfl ⟨?_, ?_, ?_, ?_, ?_, ?_, ?_, ?_, ?_, trivial⟩ ?_
            · refine gen_plain rfl (fun _ _ => rfl) (fun L val V hc hi hu hg hd => ?_)
              refine gdoes_value (v := .pointer (some ⟨pb, 0, none⟩)) ?_ rfl hg (fun j u hj hr => hr)
              simp [execOp, Act.eval, go_sem]
            · refine gen_plain rfl (fun _ _ => rfl) (fun L val V hc hi hu hg hd => ?_)
              have h0 : val 0 = .pointer (some ⟨pb, 0, none⟩) := depsG_get hd 0 (by kernel_rfl)
              refine gdoes_value (v := .pointer (some ⟨pb, 0, none⟩)) ?_ rfl hg (fun j u hj hr => hr)
              simp [execOp, Act.eval, go_sem, h0]
            · refine gen_plain rfl (fun _ _ => rfl) (fun L val V hc hi hu hg hd => ?_)
              have h1 : val 1 = .pointer (some ⟨pb, 0, none⟩) := depsG_get hd 1 (by kernel_rfl)
              refine gdoes_value (v := .pointer (some ⟨pb, 102, none⟩)) ?_ rfl hg (fun j u hj hr => hr)
              simp [execOp, Act.eval, go_sem, h1]
            · refine gen_plain rfl (fun _ _ => rfl) (fun L val V hc hi hu hg hd => ?_)
              have h2 : val 2 = .pointer (some ⟨pb, 102, none⟩) := depsG_get hd 2 (by kernel_rfl)
              have hV : V = w2.drew := by have q : L 6 = false := wants_back hc 9 6 3 (by kernel_rfl) hi; simpa [q] using hg
              have e2 : V.cell? ⟨pb, 102, none⟩ = some (.map (some hb)) := by rw [hV]; exact E2.out
              refine gdoes_value (v := .map (some hb)) ?_ rfl hg (fun j u hj hr => hr)
              simp [execOp, Act.eval, go_sem, h2, e2]
            · refine gen_plain rfl (fun _ _ => rfl) (fun L val V hc hi hu hg hd => ?_)
              refine gdoes_value (v := .pointer (some ⟨xb, 2, none⟩)) ?_ rfl hg (fun j u hj hr => hr)
              simp [execOp, Act.eval, go_sem]
            · refine gen_plain rfl (fun _ _ => rfl) (fun L val V hc hi hu hg hd => ?_)
              have h4 : val 4 = .pointer (some ⟨xb, 2, none⟩) := depsG_get hd 4 (by kernel_rfl)
              have hV : V = w2.drew := by have q : L 6 = false := wants_back hc 9 6 5 (by kernel_rfl) hi; simpa [q] using hg
              have e2 : V.cell? ⟨xb, 2, none⟩ = some v := by rw [hV]; exact EX.out
              refine gdoes_value (v := v) ?_ rfl hg (fun j u hj hr => hr)
              simp [execOp, Act.eval, go_sem, h4, e2]
            · refine gen_plain rfl (fun _ _ => rfl) (fun L val V hc hi hu hg hd => ?_)
              have h3 : val 3 = .map (some hb) := depsG_get hd 3 (by kernel_rfl)
              have h5 : val 5 = v := depsG_get hd 5 (by kernel_rfl)
              have hV : V = w2.drew := by simpa [hi] using hg
              refine gdoes_call (f := 55) (args := #[.map (some hb), v]) ?_ (by rw [hV]; exact NT.out) ?_
              · simp [execOp, Act.eval, go_sem, resolve, invoke, h3, h5]
              · rintro e w' ⟨q1, q2, q3⟩
                exact ⟨_, q1, rfl, (by rw [if_pos (upB_self L 6)]; exact ⟨B2B.out _ q2, q3⟩), fun j u hj hr => hr⟩
            · refine gen_plain rfl (fun _ _ => rfl) (fun L val V hc hi hu hg hd => ?_)
              have h6 : val 6 = .bool nb := depsG_get hd 6 (by kernel_rfl)
              refine gdoes_value (v := .bool (!nb)) ?_ rfl hg (fun j u hj hr => hr)
              simp [execOp, Act.eval, go_sem, h6]
            · refine gen_plain rfl (fun _ _ => rfl) (fun L val V hc hi hu hg hd => ?_)
              have h7 : val 7 = .bool (!nb) := depsG_get hd 7 (by kernel_rfl)
              refine gdoes_value (v := .bool (!nb)) ?_ rfl hg (fun j u hj hr => hr)
              simp [execOp, Act.eval, go_sem, h7]
            intro L val V hL hg hR
            have h8 : val 8 = .bool (!nb) := hR 8 (by decide)
            rw [if_pos (hL 6 (by decide))] at hg
            have HG := hid hg
            clear hg hR hL
            obtain ⟨v8, hv8⟩ : ∃ v8, val 8 = v8 := ⟨_, rfl⟩
            rw [h8] at hv8
            simp only [h8]
            cases nb with
            | true =>
              go_wp2_with fail
              go_ret
              exact ⟨rfl, HG.out.1, fun _ => HG.out.2 (by trivial)⟩
            | false =>
              go_wp2_with fail
              go_ret
              exact ⟨rfl, HG.out.1, fun c => by simp [wrR] at c⟩
end Go.Proofs.YtjobdfgcgnpppaaDoor
